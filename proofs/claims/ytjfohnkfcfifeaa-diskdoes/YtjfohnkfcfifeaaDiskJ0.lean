/-
  Package disk: a nil disk; Append as a whole.
-/
import Derived.Test.YtjfohnkfcfifeaaDiskH
import Derived.Lib.Bytealg
import Derived.Sort.Statements
import Derived.Test.YtjfohnkfcfifeaaDiskD
import Derived.Test.YtjfohnkfcfifeaaApps
import Derived.Laws.MakeOwn
import Derived.Deep.RegionLaw
import Derived.Deep.AppendLies
import Derived.Deep.RegionHeld3
namespace Go.Proofs.Ytjfohnkfcfifeaa
open Go.RowKit Go.Maps

theorem boxed_below (w : World) (o : Obj) : Below w.heap.size w (w.alloc o) := (Below.refl _ w).alloc (Nat.le_refl _) _

theorem append_nil (w : World) (s : ByteArray) (ao : Option Addr) (len cap : Nat) : Calls Try.prog 9 #[.pointer none, .string s, .slice ao len cap] w fun e w' => e = .returned (.int .i64 6) ∧ Below w.heap.size w w' := by
  go_enter Try.func9, Try.ntmps9
  go_wp2_with fail
  refine (giveName_nil _ _ _ _).mono ?_
  rintro e w' ⟨rfl, rfl⟩
  go_wp2
  go_ret
  exact ⟨rfl, boxes3_below w _ _ _ _ _ _⟩
theorem cut_nil (w : World) (s : ByteArray) (x : Int) : Calls Try.prog 27 #[.pointer none, .string s, .int .i64 x] w fun e w' => e = .returned (.int .i64 6) ∧ Below w.heap.size w w' := by
  go_enter Try.func27, Try.ntmps27
  go_wp2_with fail
  refine (changeFile_nil _ _ _ _).mono ?_
  rintro e w' ⟨rfl, hb⟩
  go_wp2
  go_ret
  exact ⟨rfl, (boxed_below w _).trans (hb.mono (by simp))⟩
theorem rename_nil (w : World) (s t : ByteArray) : Calls Try.prog 29 #[.pointer none, .string s, .string t] w fun e w' => e = .returned (.int .i64 6) ∧ Below w.heap.size w w' := by
  go_enter Try.func29, Try.ntmps29
  go_wp2_with fail
  refine (giveName_nil _ _ _ _).mono ?_
  rintro e w' ⟨rfl, rfl⟩
  go_wp2
  go_ret
  exact ⟨rfl, boxes3_below w _ _ _ _ _ _⟩
theorem remove_nil (w : World) (s : ByteArray) : Calls Try.prog 10 #[.pointer none, .string s] w fun e w' => e = .returned (.int .i64 6) ∧ Below w.heap.size w w' := by
  go_enter Try.func10, Try.ntmps10
  go_wp2_with fail
  refine (changeFile_nil _ _ _ _).mono ?_
  rintro e w' ⟨rfl, hb⟩
  go_wp2
  go_ret
  exact ⟨rfl, ((boxed_below w _).trans ((boxed_below _ _).mono (by simp))).trans (hb.mono (by simp; omega))⟩
theorem files_nil (w : World) : Calls Try.prog 13 #[.pointer none] w fun e w' => e = .returned (.slice none 0 0) ∧ w' = w := by
  go_enter Try.func13, Try.ntmps13
  go_wp2_with fail
  refine (dclosed_nil _).mono ?_
  rintro e w' ⟨rfl, rfl⟩
  go_wp2
  go_ret
  exact ⟨rfl, rfl⟩
theorem crash_nil (w : World) (v : Value) : Calls Try.prog 14 #[.pointer none, v] w fun e w' => e = .returned (.int .i64 6) ∧ w' = w := by
  go_enter Try.func14, Try.ntmps14
  go_wp2_with fail
  refine (dclosed_nil _).mono ?_
  rintro e w' ⟨rfl, rfl⟩
  go_wp2
  go_ret
  exact ⟨rfl, rfl⟩
theorem fork_nil (w : World) : Calls Try.prog 8 #[.pointer none] w fun e w' => e = .returned (.pointer none) ∧ w' = w := by
  go_enter Try.func8, Try.ntmps8
  go_wp2_with fail
  refine (dclosed_nil _).mono ?_
  rintro e w' ⟨rfl, rfl⟩
  go_wp2
  go_ret
  exact ⟨rfl, rfl⟩

section
variable {w : World} {p bm : Nat} {size calls : Int} {fs : List Fl} {D : DataW Value}

/-- Append, whatever its closure comes to. -/
theorem append_do (w : World) (p : Nat) (s : ByteArray) (ao : Option Addr) (len cap : Nat) (R : Int → World → Prop)
    (hch : Calls Try.prog 20 #[.pointer (some ⟨p, 0, none⟩), .string s, .func (.func 21) #[] #[.pointer (some ⟨w.heap.size, 0, none⟩), .pointer (some ⟨w.heap.size + 1, 0, none⟩), .pointer (some ⟨w.heap.size + 2, 0, none⟩)]] (boxes3 w (.pointer (some ⟨p, 0, none⟩)) (.string s) (.slice ao len cap) 23 9 31) fun e w' => ∃ er, e = .returned (.int .i64 er) ∧ R er w') :
    Calls Try.prog 9 #[.pointer (some ⟨p, 0, none⟩), .string s, .slice ao len cap] w fun e w' => ∃ er, e = .returned (.int .i64 er) ∧ R er w' := by
  unfold boxes3 at hch
  have HCH := hid hch
  clear hch
  go_enter Try.func9, Try.ntmps9
  go_wp2_with fail
  refine HCH.out.mono ?_
  rintro e w1 ⟨er, rfl, hR⟩
  have HR := hid hR
  clear hR
  go_wp2
  go_ret
  exact ⟨er, rfl, HR.out⟩

theorem append_new (h : DiskAt w p bm size calls fs D) (hc : calls ≠ 0) (s : ByteArray) (hs : s.size ≤ maxLen) (hg : nameS s = true) (hf : ffind fs s = none) (hfew : fs.length < 64) (ao : Option Addr) (len cap : Nat) (bs : List Int) (hB : Held w ao len cap bs) (hroom : (total fs : Int) + len ≤ size) :
    Calls Try.prog 9 #[.pointer (some ⟨p, 0, none⟩), .string s, .slice ao len cap] w fun e w' => ∃ er, e = .returned (.int .i64 er) ∧ er = 0 ∧ ∃ q v', Now w w' p bm size (counted calls) fs (fs ++ [⟨s, q, v', bs, 0⟩]) := by
  refine append_do w p s ao len cap (fun er w' => er = 0 ∧ ∃ q v', Now w w' p bm size (counted calls) fs (fs ++ [⟨s, q, v', bs, 0⟩])) ?_
  have hb := boxes3_below w (.pointer (some ⟨p, 0, none⟩)) (.string s) (.slice ao len cap) 23 9 31
  obtain ⟨b0, b1, b2⟩ := boxes3_cells w (.pointer (some ⟨p, 0, none⟩)) (.string s) (.slice ao len cap) 23 9 31
  generalize boxes3 w (.pointer (some ⟨p, 0, none⟩)) (.string s) (.slice ao len cap) 23 9 31 = W at *
  have hW := h.below hb (Nat.le_refl _)
  refine giveName_do hW s hs hg _ _ _ ?_
  refine (change_do hW hc (.inl rfl) _ (fun er w' => er = 0 ∧ ∃ q v', Now W w' p bm size calls fs (fs ++ [⟨s, q, v', bs, 0⟩])) ?_).mono ?_
  · refine (append1_new hW s hs hg hf hfew w.heap.size ao len cap bs (hB.below hb (Nat.le_refl _)) b0 b1 b2 hroom).mono ?_
    rintro e w' ⟨rfl, q, v', hn⟩
    exact ⟨0, rfl, ⟨rfl, q, v', hn⟩, hn.calls_cell⟩
  · rintro e w' ⟨er, w1, rfl, ⟨rfl, q, v', hn⟩, rfl⟩
    refine ⟨0, rfl, rfl, q, v', ?_⟩
    have := (hn.count (er := 0)).ahead hb
    simpa using this
theorem append_old (h : DiskAt w p bm size calls fs D) (hc : calls ≠ 0) (s : ByteArray) (hs : s.size ≤ maxLen) (hg : nameS s = true) {f : Fl} (hf : ffind fs s = some f) (ao : Option Addr) (len cap : Nat) (bs : List Int) (hB : Held w ao len cap bs) (hroom : (total fs : Int) + len ≤ size) :
    Calls Try.prog 9 #[.pointer (some ⟨p, 0, none⟩), .string s, .slice ao len cap] w fun e w' => ∃ er, e = .returned (.int .i64 er) ∧ er = 0 ∧ ∃ v', Now w w' p bm size (counted calls) fs (setF fs { f with v := v', bytes := f.bytes ++ bs }) := by
  refine append_do w p s ao len cap (fun er w' => er = 0 ∧ ∃ v', Now w w' p bm size (counted calls) fs (setF fs { f with v := v', bytes := f.bytes ++ bs })) ?_
  have hb := boxes3_below w (.pointer (some ⟨p, 0, none⟩)) (.string s) (.slice ao len cap) 23 9 31
  obtain ⟨b0, b1, b2⟩ := boxes3_cells w (.pointer (some ⟨p, 0, none⟩)) (.string s) (.slice ao len cap) 23 9 31
  generalize boxes3 w (.pointer (some ⟨p, 0, none⟩)) (.string s) (.slice ao len cap) 23 9 31 = W at *
  have hW := h.below hb (Nat.le_refl _)
  refine giveName_do hW s hs hg _ _ _ ?_
  refine (change_do hW hc (.inl rfl) _ (fun er w' => er = 0 ∧ ∃ v', Now W w' p bm size calls fs (setF fs { f with v := v', bytes := f.bytes ++ bs })) ?_).mono ?_
  · refine (append1_old hW s hs hf w.heap.size ao len cap bs (hB.below hb (Nat.le_refl _)) b0 b1 b2 hroom).mono ?_
    rintro e w' ⟨rfl, v', hn⟩
    exact ⟨0, rfl, ⟨rfl, v', hn⟩, hn.calls_cell⟩
  · rintro e w' ⟨er, w1, rfl, ⟨rfl, v', hn⟩, rfl⟩
    refine ⟨0, rfl, rfl, v', ?_⟩
    have := (hn.count (er := 0)).ahead hb
    simpa using this
end
end Go.Proofs.Ytjfohnkfcfifeaa
/-
  The order of strings that strings.Compare tells is a strict order. No function of the program is named here.
-/
namespace Go.Proofs.Ytjfohnkfcfifeaa

theorem cb_anti : ∀ a b : List UInt8, Lib.compareBytes a b = - Lib.compareBytes b a
  | [], [] => rfl
  | [], _ :: _ => rfl
  | _ :: _, [] => rfl
  | x :: a, y :: b => by
    have ih := cb_anti a b
    simp only [Lib.compareBytes]
    by_cases h1 : x < y
    · have h2 : ¬ y < x := fun h => by rw [UInt8.lt_iff_toNat_lt] at h1 h; omega
      rw [if_pos h1, if_neg h2, if_pos h1]
    · by_cases h2 : y < x
      · rw [if_neg h1, if_pos h2, if_pos h2]
        rfl
      · rw [if_neg h1, if_neg h2, if_neg h2, if_neg h1]
        exact ih
theorem cb_refl (a : List UInt8) : Lib.compareBytes a a = 0 := by
  have := cb_anti a a
  omega
theorem u8_eq {x y : UInt8} (h1 : ¬ x < y) (h2 : ¬ y < x) : x = y := by
  rw [UInt8.lt_iff_toNat_lt] at h1 h2
  exact UInt8.toNat_inj.1 (by omega)
theorem cb_eq : ∀ a b : List UInt8, Lib.compareBytes a b = 0 → a = b
  | [], [], _ => rfl
  | [], _ :: _, h => by simp [Lib.compareBytes] at h
  | _ :: _, [], h => by simp [Lib.compareBytes] at h
  | x :: a, y :: b, h => by
    simp only [Lib.compareBytes] at h
    by_cases h1 : x < y
    · rw [if_pos h1] at h
      cases h
    · by_cases h2 : y < x
      · rw [if_neg h1, if_pos h2] at h
        cases h
      · rw [if_neg h1, if_neg h2] at h
        rw [u8_eq h1 h2, cb_eq a b h]
theorem cb_trans : ∀ a b c : List UInt8, Lib.compareBytes a b < 0 → Lib.compareBytes b c < 0 → Lib.compareBytes a c < 0
  | [], [], _, h, _ => by simp [Lib.compareBytes] at h
  | [], _ :: _, [], _, h => by simp [Lib.compareBytes] at h
  | [], _ :: _, _ :: _, _, _ => by simp [Lib.compareBytes]
  | _ :: _, [], _, h, _ => by simp [Lib.compareBytes] at h
  | _ :: _, _ :: _, [], _, h => by simp [Lib.compareBytes] at h
  | x :: a, y :: b, z :: c, h1, h2 => by
    simp only [Lib.compareBytes] at h1 h2 ⊢
    by_cases e1 : x < y
    · by_cases e2 : y < z
      · have e3 : x < z := by rw [UInt8.lt_iff_toNat_lt] at e1 e2 ⊢; omega
        rw [if_pos e3]
        decide
      · rw [if_neg e2] at h2
        by_cases e4 : z < y
        · rw [if_pos e4] at h2
          cases h2
        · rw [← u8_eq e2 e4, if_pos e1]
          decide
    · rw [if_neg e1] at h1
      by_cases e4 : y < x
      · rw [if_pos e4] at h1
        cases h1
      · rw [if_neg e4] at h1
        rw [u8_eq e1 e4]
        by_cases e2 : y < z
        · rw [if_pos e2]
          decide
        · rw [if_neg e2] at h2 ⊢
          by_cases e5 : z < y
          · rw [if_pos e5] at h2
            cases h2
          · rw [if_neg e5] at h2 ⊢
            exact cb_trans a b c h1 h2
theorem cb_ntrans (a b c : List UInt8) (h1 : ¬ Lib.compareBytes a b < 0) (h2 : ¬ Lib.compareBytes b c < 0) : ¬ Lib.compareBytes a c < 0 := by
  intro h
  have a1 := cb_anti a b
  have a2 := cb_anti b c
  by_cases e1 : Lib.compareBytes a b = 0
  · rw [cb_eq _ _ e1] at h
    exact h2 h
  · have h3 : Lib.compareBytes b a < 0 := by omega
    exact h2 (cb_trans _ _ _ h3 h)
/-- The order of elements by a name. -/
theorem cb_swo {α : Type} (f : α → List UInt8) : Sort.SWO (fun x y : α => decide (Lib.compareBytes (f x) (f y) < 0)) where
  irrefl x := by simp [cb_refl]
  trans x y z h1 h2 := by
    simp at h1 h2 ⊢
    exact cb_trans _ _ _ h1 h2
  ntrans x y z h1 h2 := by
    have := cb_ntrans (f x) (f y) (f z) (by simpa using h1) (by simpa using h2)
    simpa using this
end Go.Proofs.Ytjfohnkfcfifeaa
/-
  Package disk: what Files tells of the files; those that have come in a range.
-/
namespace Go.Proofs.Ytjfohnkfcfifeaa
open Go.RowKit Go.Maps

/-- What Files tells of a file: three cells. -/
def Fl.cells (f : Fl) : List Value := [.string f.name, .string (strOfNums f.bytes), .int .i64 f.sure]
def flatF (fs : List Fl) : List Value := fs.flatMap Fl.cells
theorem Try.infoFile : (Try.prog.info? 47).map (fun i => (i.zero, i.size, i.bytes)) = some (some (.agg #[.string ByteArray.empty, .string ByteArray.empty, .int .i64 0]), 3, 40) := by kernel_rfl

theorem flatF_snoc (fs : List Fl) (f : Fl) : flatF (fs ++ [f]) = flatF fs ++ f.cells := by simp [flatF]
theorem fl_one (f : Fl) : ∀ u ∈ f.cells, u.oneCell' = true := by
  intro u hu
  simp [Fl.cells] at hu
  rcases hu with rfl | rfl | rfl <;> rfl
theorem row_not_iter {w : World} {base size k n r bm cnt : Nat} {e : TypeId} {u : Value} {xs : List Value} (hr : w.ownsRow base e size u k xs) {P : Program} {kt : TypeId} {D : DataW Value} {left : Lit → Bool} (hm : w.ranges P kt valR bm r n D left cnt) : some r ≠ u.ownBlock ∧ some bm ≠ u.ownBlock := by
  refine ⟨?_, row_not_map hr hm.owns⟩
  obtain ⟨es, clock, since, seen, c0, _, _, _, _, hb, _⟩ := hm
  rcases hr.2 with ⟨rfl, _⟩ | ⟨g, cap, cur, rfl, _, hg, _⟩
  · simp [Value.ownBlock]
  · intro he
    have e1 : r = g := by simpa [Value.ownBlock] using he
    subst e1
    rw [hb] at hg
    cases hg
theorem ranges_drew {w : World} {P : Program} {kt : TypeId} {bm r n cnt : Nat} {D : DataW Value} {left : Lit → Bool} (h : w.ranges P kt valR bm r n D left cnt) : w.drew.ranges P kt valR bm r n D left cnt := h
/-- The files that have come. -/
def gone (left : Lit → Bool) (fs : List Fl) : List Fl := fs.filter (fun f => !left (key f.name))
theorem gone_start {left : Lit → Bool} {fs : List Fl} (h : ∀ f ∈ fs, left (key f.name) = true) : gone left fs = [] := by
  unfold gone
  rw [List.filter_eq_nil_iff]
  intro f hf
  simp [h f hf]
theorem gone_end {left : Lit → Bool} {fs : List Fl} (h : ∀ kl, left kl = false) : gone left fs = fs := by
  unfold gone
  rw [List.filter_eq_self]
  intro f _
  simp [h]
theorem gone_step {left : Lit → Bool} : ∀ {fs : List Fl} (_ : fs.Pairwise (fun f g => f.name ≠ g.name)) {f : Fl} (_ : f ∈ fs) (_ : left (key f.name) = true), (gone (fun z => left z && !z.sameKey (key f.name)) fs).Perm (gone left fs ++ [f])
  | g :: r, hn, f, hf, hl => by
    obtain ⟨h1, h2⟩ := List.pairwise_cons.1 hn
    unfold gone
    rcases List.mem_cons.1 hf with e | hf'
    · subst e
      have e2 : r.filter (fun x => !(fun z => left z && !z.sameKey (key f.name)) (key x.name)) = r.filter (fun x => !left (key x.name)) := List.filter_congr (fun x hx => by
        show (!(left (key x.name) && !(key x.name).sameKey (key f.name))) = !left (key x.name)
        rw [key_same, decide_eq_false (Ne.symm (h1 x hx))]
        simp)
      rw [List.filter_cons_of_pos (by simp [key_same]), List.filter_cons_of_neg (by simp [hl]), e2]
      exact (List.perm_append_singleton f _).symm
    · have ih := gone_step h2 hf' hl
      unfold gone at ih
      by_cases hg : left (key g.name) = true
      · rw [List.filter_cons_of_neg (by simp [key_same, hg, h1 f hf']), List.filter_cons_of_neg (by simp [hg])]
        exact ih
      · rw [List.filter_cons_of_pos (by simp [hg]), List.filter_cons_of_pos (by simp [hg])]
        exact ih.cons g
theorem own_sl {w : World} {B e size n : Nat} {v : Value} {xs : List Value} (h : w.ownsRow B e size v n xs) : ∃ ao cap, v = .slice ao n cap := by
  rcases h.2 with ⟨rfl, h0⟩ | ⟨g, cap, _, rfl, _⟩
  · subst h0
    exact ⟨none, 0, rfl⟩
  · exact ⟨_, cap, rfl⟩
theorem cells_newF (w : World) (f : Fl) : ∀ j u, f.cells[j]? = some u → (w.alloc (.cells #[.string f.name, .string (strOfNums f.bytes), .int .i64 f.sure] 47)).cell? ((⟨w.heap.size, 0, none⟩ : Addr).add j) = some u := by
  intro j u hu
  rw [Addr.add_lit, Nat.zero_add]
  exact (Blk.new w 47 f.cells).cell hu
theorem own_at {w : World} {B e size n : Nat} {v : Value} {xs : List Value} (h : w.ownsRow B e size v n xs) : ∀ k, v.ownBlock = some k → B ≤ k := fun k hk => (h.lt k hk).1

end Go.Proofs.Ytjfohnkfcfifeaa
