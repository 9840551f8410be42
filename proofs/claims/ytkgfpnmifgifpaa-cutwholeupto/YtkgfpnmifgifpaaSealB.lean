/-
  Package cut: sealsOf, Epoch; to which seal an event belongs.
-/
import Derived.Test.YtkgfpnmifgifpaaSealA
import Derived.Test.YtkgfpnmifgifpaaVvD
import Derived.Test.YtkgfpnmifgifpaaCartA
import Derived.Test.YtkgfpnmifgifpaaStrKey
namespace Go.Proofs.Ytkgfpnmifgifpaa
open Go.RowKit Go.Maps

/-- Does e belong to s? -/
def Bel (e : Ev) (s : Sl) : Prop := s.cart = e.cart ∧ e.epoch ≤ s.ep ∧ HasV s.cut e.o e.s
instance (e : Ev) (s : Sl) : Decidable (Bel e s) := by unfold Bel; infer_instance
def ownOf (name : ByteArray) (xs : List SlM) : List SlM := xs.filter fun x => decide (x.e.cart = name)
/-- A new row of seals. -/
def MadeS (w : World) (ys : List SlM) (e : Ending) (w' : World) : Prop :=
  ∃ v, e = .returned v ∧ w'.ownsRow w.heap.size 50 4 v ys.length (flatS ys) ∧ Below w.heap.size w w'
theorem own_take {name : ByteArray} {xs : List SlM} {k : Nat} (hk : k < xs.length) : ownOf name (xs.take (k + 1)) = ownOf name (xs.take k) ++ (if xs[k].e.cart = name then [xs[k]] else []) := by
  unfold ownOf
  rw [List.take_succ_eq_append_getElem hk, List.filter_append]
  by_cases h : xs[k].e.cart = name
  · rw [if_pos h]
    simp [h]
  · rw [if_neg h]
    simp [h]
theorem ownOf_len (name : ByteArray) (xs : List SlM) : (ownOf name xs).length ≤ xs.length := List.length_filter_le _ _
theorem ownOf_sub {name : ByteArray} {xs : List SlM} : ∀ x ∈ ownOf name xs, x ∈ xs := fun _ hx => (List.mem_filter.1 hx).1
theorem wpList_append_sl' {ops : Array Oper} {rest : List Oper} {o : Oper} {a : Act} {Q : Exit → Act → World → Prop} (W0 W : World) (x : SlM) (hW : W = W0.alloc (.cells x.cells.toArray 50)) (hgd : o.guard = none) (s xx : Operand)
    (ho : o.op = .call { callee := .builtin .append, args := #[s, xx], argTypes := #[23, 23] }) (B : Nat) (v : Value) (ds : List SlM) (n : Nat) (hn : ds.length = n)
    (hs : a.eval s = v) (g : Nat) (hx : a.eval xx = .slice (some ⟨g, 0, none⟩) 1 1) (hg : g = W0.heap.size) (hown : W0.ownsRow B 50 4 v n (flatS ds)) (hB : B ≤ W0.heap.size) (hl : n < 1466015503701)
    (h : ∀ v' w', w'.ownsRow B 50 4 v' (n + 1) (flatS (ds ++ [x])) → Below B W0 w' → W.grownBy w' v.ownBlock → wpList Try.prog ops Q rest (a.put o.dst v') w') :
    wpList Try.prog ops Q (o :: rest) a W := by
  subst hg
  exact wpList_append_sl W0 W x hW hgd s xx ho B v ds n hn hs hx hown hB hl h
set_option maxRecDepth 1000000 in
set_option maxHeartbeats 2000000 in
theorem sealsOf_any (w : World) (ao : Option Addr) (cap : Nat) (xs : List SlM) (n : Nat) (hn : xs.length = n) (h : HeldSl w ao xs) (hl : n ≤ 100000000) (name : ByteArray) :
    Calls Try.prog 28 #[.slice ao n cap, .string name] w (MadeS w (ownOf name xs)) := by
  have HN := hid hn
  have H := hid h
  clear hn h
  go_enter Try.func28, Try.ntmps28
  go_wp2
  go_loopw [5, 7, 10] (fun out _ i wr => ∃ k : Nat, k ≤ n ∧ i = .int .i64 k ∧ Hid (wr.ownsRow w.heap.size 50 4 out (ownOf name (xs.take k)).length (flatS (ownOf name (xs.take k))) ∧ Below w.heap.size w wr)) (fun _ _ i _ => n - (intOf i).toNat)
  case atStart => exact ⟨0, Nat.zero_le _, rfl, World.ownsRow_nil _ _ _ _, Below.refl _ _⟩
  case round =>
    obtain ⟨k, hk, rfl, HR⟩ := hrel
    by_cases hlt : k < n
    · have hlt' : (k : Int) < (n : Int) := by omega
      have hkx : Hid (k < xs.length) := (by rw [HN.out]; exact hlt : k < xs.length)
      obtain ⟨bb, off, hao, _, g0, g1, g2, g3⟩ := (H.out.below HR.out.2).at hkx.out
      subst hao
      have HKM : Hid (k + 1 ≤ n) := (by omega : k + 1 ≤ n)
      have HTK := hid (own_take (name := name) hkx.out)
      have HFL : Hid ((ownOf name (xs.take k)).length < 1466015503701) := by
        have h1 := ownOf_len name (xs.take k)
        rw [List.length_take] at h1
        show _ < _
        omega
      obtain ⟨X, HX⟩ : ∃ X, Hid (xs[k]'hkx.out = X) := ⟨_, hid rfl⟩
      rw [HX.out] at g0 g1 g2 g3 HTK
      obtain ⟨⟨tok, cart, ep, cut⟩, ao1, cap1⟩ := X
      obtain ⟨XN, HXN⟩ : ∃ m, Hid (cut.length = m) := ⟨_, hid rfl⟩
      simp only at g0 g1 g2 g3 HTK
      rw [HXN.out] at g3
      have hbk := Blk.new wr 50 [.string tok, .string cart, .int .i64 ep, .slice ao1 XN cap1]
      have hc0 := hbk.cell (i := 0) rfl
      have hc1 := hbk.cell (i := 1) rfl
      have hc2 := hbk.cell (i := 2) rfl
      have hc3 := hbk.cell (i := 3) rfl
      have HBX : Hid (Below w.heap.size w (wr.alloc (.cells #[.string tok, .string cart, .int .i64 ep, .slice ao1 XN cap1] 50))) := HR.out.2.alloc HR.out.2.size _
      have HROW : Hid ((wr.alloc (.cells #[.string tok, .string cart, .int .i64 ep, .slice ao1 XN cap1] 50)).ownsRow w.heap.size 50 4 u5 (ownOf name (xs.take k)).length (flatS (ownOf name (xs.take k)))) := HR.out.1.alloc _
      clear hbk
      by_cases hc : cart = name
      · have hbe : (cart.toList == name.toList) = true := by rw [hc]; simp
        rw [if_pos hc] at HTK
        clear hc
        go_wp2_with (at_builtin; refine wpList_append_sl' (wr.alloc (.cells #[.string tok, .string cart, .int .i64 ep, .slice ao1 XN cap1] 50)) _ ⟨⟨tok, cart, ep, cut⟩, ao1, cap1⟩ ?_ rfl _ _ rfl w.heap.size _ (ownOf name (xs.take k)) _ rfl rfl _ rfl (by simp) HROW.out HBX.out.size HFL.out ?_; (show _ = _; simp only [SlM.cells]; rw [HXN.out]); intro v' w3 hown hbel _; have HO3 := hid hown; have HB3 := hid (HBX.out.trans hbel); clear hown hbel)
        go_wp2
        go_roundw
        case rel =>
          refine ⟨k + 1, HKM.out, by go_num, ?_, HB3.out⟩
          rw [HTK.out, List.length_append]
          exact HO3.out
        case measure => simp [intOf]; have := HKM.out; omega
      · have hbe : (cart.toList == name.toList) = false := by simpa using fun hh => hc (bytes_inj hh)
        rw [if_neg hc, List.append_nil] at HTK
        clear hc
        go_wp2
        go_roundw
        case rel =>
          refine ⟨k + 1, HKM.out, by go_num, ?_, HBX.out⟩
          rw [HTK.out]
          exact HROW.out
        case measure => simp [intOf]; have := HKM.out; omega
    · have hlt' : ¬ (k : Int) < (n : Int) := by omega
      have hke : Hid (xs.take k = xs) := by show _ = _; rw [List.take_of_length_le]; have := HN.out; omega
      rw [hke.out] at HR
      go_wp2
      go_ret
      exact ⟨_, rfl, HR.out.1, HR.out.2⟩
theorem epoch_any (w : World) (ao : Option Addr) (cap : Nat) (xs : List SlM) (n : Nat) (hn : xs.length = n) (h : HeldSl w ao xs) (hl : n ≤ 100000000) (name : ByteArray) :
    Calls Try.prog 11 #[.slice ao n cap, .string name] w fun e w' => e = .returned (.int .i64 (ownOf name xs).length) ∧ Below w.heap.size w w' := by
  have HS := hid (sealsOf_any w ao cap xs n hn h hl name)
  obtain ⟨m, HM⟩ : ∃ m, Hid ((ownOf name xs).length = m) := ⟨_, hid rfl⟩
  rw [HM.out]
  clear hn h
  go_enter Try.func11, Try.ntmps11
  go_wp2_with fail
  refine HS.out.mono ?_
  rintro e w1 ⟨v, rfl, hrow, hb⟩
  rw [HM.out] at hrow
  obtain ⟨o1, c1, hv⟩ := own_slice' hrow
  have HB := hid hb
  subst hv
  clear hrow hb
  go_wp2
  go_ret
  exact ⟨rfl, HB.out⟩
set_option maxRecDepth 100000 in
set_option maxHeartbeats 1000000 in
theorem belongs1_any (V : World) (x : SlM) (y : EvM) (p : Nat) (hp : Blk V p 34 y.cells) (hx : SlOk V x) :
    Calls Try.prog 27 #[x.val, .pointer (some ⟨p, 0, none⟩)] V fun e w' => e = .returned (.bool (decide (Bel y.e x.e))) ∧ Below V.heap.size V w' := by
  obtain ⟨⟨tok, cart, ep, cut⟩, ao1, cap1⟩ := x
  obtain ⟨⟨o2, s2, d2, c2, p2, k2, q2, b2⟩, ao2, cap2⟩ := y
  obtain ⟨XN, HXN⟩ : ∃ m, Hid (cut.length = m) := ⟨_, hid rfl⟩
  simp only [SlM.val]
  rw [HXN.out]
  have HB : Hid (Below V.heap.size V (V.alloc (.cells #[.string tok, .string cart, .int .i64 ep, .slice ao1 XN cap1] 50))) := (Below.refl _ _).alloc (Nat.le_refl _) _
  have hbk := Blk.new V 50 [.string tok, .string cart, .int .i64 ep, .slice ao1 XN cap1]
  have hc1 := hbk.cell (i := 1) rfl
  have hc2 := hbk.cell (i := 2) rfl
  have hc3 := hbk.cell (i := 3) rfl
  have hp' := hp.below HB.out hp.lt
  have e0 := hp'.cell (i := 0) rfl
  have e1 := hp'.cell (i := 1) rfl
  have e3 := hp'.cell (i := 3) rfl
  have e4 := hp'.cell (i := 4) rfl
  have HH := hid (has_any (V.alloc (.cells #[.string tok, .string cart, .int .i64 ep, .slice ao1 XN cap1] 50)) ao1 cap1 cut XN HXN.out (hx.cut.below HB.out) o2 s2)
  clear hbk hp hp' hx
  by_cases hc : cart = c2
  rotate_left 1
  · have HD : Hid (decide (Bel ⟨o2, s2, d2, c2, p2, k2, q2, b2⟩ ⟨tok, cart, ep, cut⟩) = false) := decide_eq_false fun h => hc h.1
    rw [HD.out]
    have hbb : ¬ cart.toList = c2.toList := fun hh => hc (bytes_inj hh)
    clear hc
    go_enter Try.func27, Try.ntmps27
    go_wp2
    go_ret
    exact ⟨rfl, HB.out⟩
  subst hc
  by_cases he : p2 ≤ ep
  rotate_left 1
  · have HD : Hid (decide (Bel ⟨o2, s2, d2, cart, p2, k2, q2, b2⟩ ⟨tok, cart, ep, cut⟩) = false) := decide_eq_false fun h => he h.2.1
    rw [HD.out]
    go_enter Try.func27, Try.ntmps27
    go_wp2
    go_ret
    exact ⟨rfl, HB.out⟩
  have HD : Hid (decide (Bel ⟨o2, s2, d2, cart, p2, k2, q2, b2⟩ ⟨tok, cart, ep, cut⟩) = decide (HasV cut o2 s2)) := decide_eq_decide.2 ⟨fun h => h.2.2, fun h => ⟨rfl, he, h⟩⟩
  rw [HD.out]
  obtain ⟨r, HR⟩ : ∃ r, Hid (decide (HasV cut o2 s2) = r) := ⟨_, hid rfl⟩
  rw [HR.out] at HH ⊢
  go_enter Try.func27, Try.ntmps27
  go_wp2_with fail
  refine HH.out.mono ?_
  rintro e w1 ⟨rfl, hb⟩
  have HB1 := hid (bt HB.out hb)
  clear hb HH
  go_wp2
  go_ret
  exact ⟨rfl, HB1.out⟩
end Go.Proofs.Ytkgfpnmifgifpaa
