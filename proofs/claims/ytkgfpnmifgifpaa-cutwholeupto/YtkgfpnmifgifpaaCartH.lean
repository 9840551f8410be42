/-
  Package cart: what Lines chooses, firsts.
-/
import Derived.Test.YtkgfpnmifgifpaaCartG
namespace Go.Proofs.Ytkgfpnmifgifpaa
open Go.RowKit Go.Maps

theorem lines1_any (V : World) (x : EvM) (p : Nat) (name : ByteArray) (hp : Blk V p 9 [.string name]) :
    Calls Try.prog 37 #[x.val, .pointer (some ⟨p, 0, none⟩)] V fun e w' => e = .returned (.bool (decide (x.e.cart = name))) ∧ Below V.heap.size V w' := by
  have HP := hid hp
  clear hp
  obtain ⟨⟨ox, sx, dx, cx, px, kx, qx, bx⟩, aox, capx⟩ := x
  simp only [EvM.val]
  obtain ⟨nx, HNX⟩ : ∃ n, Hid (dx.length = n) := ⟨_, hid rfl⟩
  rw [HNX.out]
  have HB1 : Hid (Below V.heap.size V (V.alloc (.cells #[.int .i64 ox, .int .i64 sx, .slice aox nx capx, .string cx, .int .i64 px, .string kx, .int .i64 qx, .bool bx] 34))) := (Below.refl _ _).alloc (Nat.le_refl _) _
  have hc1 := (HP.out.alloc (.cells #[.int .i64 ox, .int .i64 sx, .slice aox nx capx, .string cx, .int .i64 px, .string kx, .int .i64 qx, .bool bx] 34)).cell (i := 0) rfl
  by_cases hc : cx = name
  · subst hc
    have HD : Hid (decide (cx = cx) = true) := decide_eq_true rfl
    rw [HD.out]
    go_enter Try.func37, Try.ntmps37
    go_wp2
    go_ret
    exact ⟨by simp, HB1.out⟩
  · have HD : Hid (decide (cx = name) = false) := decide_eq_false hc
    rw [HD.out]
    have hbb : ¬ cx.toList = name.toList := fun hh => hc (bytes_inj hh)
    have hb2 : (cx.toList == name.toList) = false := by simpa using hbb
    go_enter Try.func37, Try.ntmps37
    go_wp2
    go_ret
    exact ⟨by simp, HB1.out⟩

/-- The dots of events. -/
def dotsE (l : List EvM) : List (Int × Int) := l.map fun x => (x.e.o, x.e.s)
/-- A map of dots in memory. -/
def MetAt (V : World) (m N : Nat) (ds : List (Int × Int)) : Prop :=
  ∃ D, V.ownsMap Try.prog 31 valR m N D ∧ ∀ o s, I64 o → I64 s → look D (dk o s) = if (o, s) ∈ ds then some (.agg #[]) else none
section
variable {V V' : World} {m N : Nat} {ds : List (Int × Int)}
theorem MetAt.turned {F : Nat → Prop} (h : MetAt V m N ds) (ht : Turns F V V') (hF : ¬ F m) : MetAt V' m N ds := by
  obtain ⟨D, h1, h2⟩ := h
  exact ⟨D, ht.map h1 hF, h2⟩
theorem MetAt.lt (h : MetAt V m N ds) : m < V.heap.size := by
  obtain ⟨D, h1, _⟩ := h
  exact h1.lt
theorem MetAt.new (w : World) : MetAt (w.alloc (.map #[] 0)) w.heap.size 0 [] := ⟨_, World.ownsMap_made w _ _ _, fun _ _ _ _ => by rw [look_empty]; simp⟩
theorem Try.zeroUnit (w : World) : (zeroValue 85).run Try.prog w = .ok (.agg #[]) w := by kernel_rfl
theorem MetAt.lookup (h : MetAt V m N ds) {o s : Int} (ho : I64 o) (hs : I64 s) :
    (Instr.lookup 84 (.map (some m)) (.agg #[.int .i64 o, .int .i64 s]) true).run Try.prog V = .ok (.tuple #[.agg #[], .bool (decide ((o, s) ∈ ds))]) V := by
  obtain ⟨D, h1, h2⟩ := h
  have := run_look_ok h1 Try.keyedDot Try.underlying84 (Try.zeroUnit V) (key_dot ho hs)
  rw [h2 o s ho hs] at this
  by_cases hm : (o, s) ∈ ds
  · rw [if_pos hm] at this
    rw [decide_eq_true hm]
    exact this
  · rw [if_neg hm] at this
    rw [decide_eq_false hm]
    exact this
theorem MetAt.put (h : MetAt V m N ds) (hN : N < maxLen) {o s : Int} (ho : I64 o) (hs : I64 s) :
    ∃ w', (Instr.mapUpdate 84 (.map (some m)) (.agg #[.int .i64 o, .int .i64 s]) (.agg #[])).run Try.prog V = .ok () w' ∧ MetAt w' m (N + 1) (ds ++ [(o, s)]) ∧ Turns (fun i => i = m) V w' := by
  obtain ⟨D, h1, h2⟩ := h
  obtain ⟨w', hrun, hown, hturn⟩ := h1.store Try.keyedDot Try.underlying84 hN (key_dot ho hs) (show valR (.agg #[]) = some (.held (.agg #[]), []) from rfl)
  refine ⟨w', hrun, ⟨_, hown, fun o' s' ho' hs' => ?_⟩, Turns.of_grown (F := fun i => i = m) hturn.grown (fun k hk => by cases hk; rfl)⟩
  by_cases e : o' = o ∧ s' = s
  · obtain ⟨rfl, rfl⟩ := e
    rw [look_put_same h1.isMap (Try.keyedDot.key (key_dot ho hs))]
    simp
  · rw [look_put_other (fun x => e (dk_inj ho' hs' ho hs x)), h2 o' s' ho' hs']
    have : (o', s') ∈ ds ++ [(o, s)] ↔ (o', s') ∈ ds := by simp [e]
    simp only [this]
end

set_option maxRecDepth 1000000 in
set_option maxHeartbeats 2000000 in
theorem firsts1_any (V : World) (x : EvM) (hx : EvOk V x) (p m N : Nat) (ds : List (Int × Int)) (hN : N < maxLen) (hp : Blk V p 84 [.map (some m)]) (hM : MetAt V m N ds) :
    Calls Try.prog 50 #[x.val, .pointer (some ⟨p, 0, none⟩)] V fun e w' => e = .returned (.bool (!decide ((x.e.o, x.e.s) ∈ ds))) ∧ (Blk w' p 84 [.map (some m)] ∧ MetAt w' m (N + 1) (ds ++ [(x.e.o, x.e.s)])) ∧ Turns (fun i => i = m) V w' := by
  have hio := hx.io
  have his := hx.is
  have HP := hid hp
  have HM := hid hM
  have HMX := hid hN
  clear hx hp hM hN
  obtain ⟨⟨ox, sx, dx, cx, px, kx, qx, bx⟩, aox, capx⟩ := x
  simp only [EvM.val] at hio his ⊢
  obtain ⟨nx, HNX⟩ : ∃ n, Hid (dx.length = n) := ⟨_, hid rfl⟩
  rw [HNX.out]
  obtain ⟨r, HR⟩ : ∃ r, Hid (decide ((ox, sx) ∈ ds) = r) := ⟨_, hid rfl⟩
  rw [HR.out]
  have hM1 : MetAt (V.alloc (.cells #[.int .i64 ox, .int .i64 sx, .slice aox nx capx, .string cx, .int .i64 px, .string kx, .int .i64 qx, .bool bx] 34)) m N ds := HM.out.turned (F := fun _ => False) ((Turns.refl _ V).alloc _) (fun h => h)
  have hlk := hM1.lookup hio his
  rw [HR.out] at hlk
  have hc1 := (HP.out.alloc (.cells #[.int .i64 ox, .int .i64 sx, .slice aox nx capx, .string cx, .int .i64 px, .string kx, .int .i64 qx, .bool bx] 34)).cell (i := 0) rfl
  have hM2 : MetAt ((V.alloc (.cells #[.int .i64 ox, .int .i64 sx, .slice aox nx capx, .string cx, .int .i64 px, .string kx, .int .i64 qx, .bool bx] 34)).alloc (.cells #[] 85)) m N ds := hM1.turned (F := fun _ => False) ((Turns.refl _ _).alloc _) (fun h => h)
  obtain ⟨w6, hrun, hM6, hT6⟩ := hM2.put HMX.out hio his
  have hT : Turns (fun i => i = m) V w6 := (((Turns.refl (fun i => i = m) V).alloc _).alloc _).trans hT6 (fun i hi => .inl hi)
  have hc2 := ((HP.out.alloc (.cells #[.int .i64 ox, .int .i64 sx, .slice aox nx capx, .string cx, .int .i64 px, .string kx, .int .i64 qx, .bool bx] 34)).alloc (.cells #[] 85)).cell (i := 0) rfl
  have HRES : Hid ((Blk w6 p 84 [.map (some m)] ∧ MetAt w6 m (N + 1) (ds ++ [(ox, sx)])) ∧ Turns (fun i => i = m) V w6) := ⟨⟨hT.blk HP.out (fun e => by obtain ⟨D, hD, _⟩ := HM.out; exact HP.out.not_map hD e), hM6⟩, hT⟩
  clear hM1 hM2 hM6 hT6 hT
  go_enter Try.func50, Try.ntmps50
  go_wp2
  go_ret
  exact ⟨rfl, HRES.out⟩
/-- Of each dot the first one. -/
def firstsB (xs : List EvM) (i : Nat) : Bool := !decide ((xs.getD i zeroEM).e.o = (xs.getD i zeroEM).e.o ∧ ((xs.getD i zeroEM).e.o, (xs.getD i zeroEM).e.s) ∈ dotsE (xs.take i))
end Go.Proofs.Ytkgfpnmifgifpaa
