/-
  Package lin: what is asked of one sight: begin, end, ended, isCheckout, isStatus, of, told, mayBe; the questions that are handed on ('Qf').
-/
import Derived.Test.YtfjmhfbmphdjiaaLnA
import Derived.Deep.RegionHeld3
namespace Go.Proofs.Ytfjmhfbmphdjiaa
open Go.RowKit Go.Maps

theorem bytes_injS {a b : ByteArray} (h : a.toList = b.toList) : a = b := by
  rw [ByteArray.toList_eq, ByteArray.toList_eq] at h
  exact ByteArray.ext (Array.toList_inj.1 h)
theorem one_new (w : World) (o : Obj) : Below w.heap.size w (w.alloc o) := (Below.refl _ _).alloc (Nat.le_refl _) _
/-- A question's answer. -/
def SaysB (w : World) (b : Bool) (e : Ending) (w' : World) : Prop := e = .returned (.bool b) ∧ Below w.heap.size w w'
def SaysI (w : World) (i : Int) (e : Ending) (w' : World) : Prop := e = .returned (.int .i64 i) ∧ Below w.heap.size w w'

theorem begin_any (w : World) (s : Sn) : Calls Try.prog 21 #[s.val] w (SaysI w s.b) := by
  obtain ⟨co, tok, b, e, id⟩ := s
  go_enter Try.func21, Try.ntmps21
  go_wp2
  go_ret
  exact ⟨rfl, one_new _ _⟩
theorem end_any (w : World) (s : Sn) : Calls Try.prog 29 #[s.val] w (SaysI w s.e) := by
  obtain ⟨co, tok, b, e, id⟩ := s
  go_enter Try.func29, Try.ntmps29
  go_wp2
  go_ret
  exact ⟨rfl, one_new _ _⟩
theorem isCheckout_any (w : World) (s : Sn) : Calls Try.prog 23 #[s.val] w (SaysB w s.co) := by
  obtain ⟨co, tok, b, e, id⟩ := s
  go_enter Try.func23, Try.ntmps23
  go_wp2
  go_ret
  exact ⟨rfl, one_new _ _⟩
theorem isStatus_any (w : World) (s : Sn) : Calls Try.prog 25 #[s.val] w (SaysB w (!s.co)) := by
  obtain ⟨co, tok, b, e, id⟩ := s
  go_enter Try.func25, Try.ntmps25
  go_wp2
  go_ret
  exact ⟨rfl, one_new _ _⟩
theorem ended_any (w : World) (s : Sn) : Calls Try.prog 26 #[s.val] w (SaysB w (decide (s.e ≠ 0))) := by
  obtain ⟨co, tok, b, e, id⟩ := s
  by_cases h : e = 0
  · have hd : decide (e ≠ 0) = false := by simp [h]
    show Calls _ _ _ _ (SaysB w (decide (e ≠ 0)))
    rw [hd]
    clear hd
    go_enter Try.func26, Try.ntmps26
    go_wp2
    go_ret
    exact ⟨by first | rfl | simp [h], one_new _ _⟩
  · have hd : decide (e ≠ 0) = true := by simp [h]
    show Calls _ _ _ _ (SaysB w (decide (e ≠ 0)))
    rw [hd]
    clear hd
    go_enter Try.func26, Try.ntmps26
    go_wp2
    go_ret
    exact ⟨by first | rfl | simp [h], one_new _ _⟩
theorem of1_any (w : World) (p : Nat) (t : ByteArray) (hp : Blk w p 9 [.string t]) (s : Sn) : Calls Try.prog 36 #[s.val, .pointer (some ⟨p, 0, none⟩)] w (SaysB w (decide (s.tok = t))) := by
  obtain ⟨co, tok, b, e, id⟩ := s
  have c0 := (hp.alloc (.cells #[.bool co, .string tok, .int .i64 b, .int .i64 e, .int .i64 id] 31)).cell (i := 0) rfl
  by_cases h : tok = t
  · have hd : decide (tok = t) = true := by simp [h]
    show Calls _ _ _ _ (SaysB w (decide (tok = t)))
    rw [hd]
    clear hd
    subst h
    go_enter Try.func36, Try.ntmps36
    go_wp2
    go_ret
    exact ⟨by simp, one_new _ _⟩
  · have hd : decide (tok = t) = false := by simp [h]
    show Calls _ _ _ _ (SaysB w (decide (tok = t)))
    rw [hd]
    have hb1 : ¬ tok.toList = t.toList := fun hh => h (bytes_injS hh)
    have hb2 : (tok.toList == t.toList) = false := beq_eq_false_iff_ne.2 hb1
    clear hd
    go_enter Try.func36, Try.ntmps36
    go_wp2
    go_ret
    exact ⟨by first | rfl | simp [hb1], one_new _ _⟩
theorem told1_any (w : World) (p : Nat) (t : Int) (hp : Blk w p 3 [.int .i64 t]) (s : Sn) : Calls Try.prog 37 #[s.val, .pointer (some ⟨p, 0, none⟩)] w (SaysB w (decide (s.id = t))) := by
  obtain ⟨co, tok, b, e, id⟩ := s
  have c0 := (hp.alloc (.cells #[.bool co, .string tok, .int .i64 b, .int .i64 e, .int .i64 id] 31)).cell (i := 0) rfl
  by_cases h : id = t
  · have hd : decide (id = t) = true := by simp [h]
    show Calls _ _ _ _ (SaysB w (decide (id = t)))
    rw [hd]
    clear hd
    subst h
    go_enter Try.func37, Try.ntmps37
    go_wp2
    go_ret
    exact ⟨by first | rfl | simp, one_new _ _⟩
  · have hd : decide (id = t) = false := by simp [h]
    show Calls _ _ _ _ (SaysB w (decide (id = t)))
    rw [hd]
    clear hd
    go_enter Try.func37, Try.ntmps37
    go_wp2
    go_ret
    exact ⟨by first | rfl | simp [h], one_new _ _⟩
/-- The questions that are handed on. -/
inductive Qf where
  | of (p : Nat) (t : ByteArray)
  | told (p : Nat) (i : Int)
  | co
  | st
  | en
def Qf.val : Qf → Value
  | .of p _ => .func (.func 36) #[] #[.pointer (some ⟨p, 0, none⟩)]
  | .told p _ => .func (.func 37) #[] #[.pointer (some ⟨p, 0, none⟩)]
  | .co => .func (.func 23) #[] #[]
  | .st => .func (.func 25) #[] #[]
  | .en => .func (.func 26) #[] #[]
def Qf.sem : Qf → Sn → Bool
  | .of _ t, s => decide (s.tok = t)
  | .told _ i, s => decide (s.id = i)
  | .co, s => s.co
  | .st, s => !s.co
  | .en, s => decide (s.e ≠ 0)
def Qf.In (w : World) : Qf → Prop
  | .of p t => Blk w p 9 [.string t]
  | .told p i => Blk w p 3 [.int .i64 i]
  | _ => True
theorem Qf.In.below {w w' : World} {q : Qf} (h : q.In w) (hb : Below w.heap.size w w') : q.In w' := by
  cases q with
  | of p t => exact Blk.below h hb (Blk.lt h)
  | told p i => exact Blk.below h hb (Blk.lt h)
  | _ => trivial
theorem of_any (w : World) (t : ByteArray) : Calls Try.prog 22 #[.string t] w fun e w' => ∃ p, e = .returned (Qf.of p t).val ∧ (Qf.of p t).In w' ∧ Below w.heap.size w w' := by
  go_enter Try.func22, Try.ntmps22
  go_wp2
  go_ret
  exact ⟨_, rfl, Blk.new w 9 [.string t], one_new _ _⟩
theorem told_any (w : World) (i : Int) : Calls Try.prog 27 #[.int .i64 i] w fun e w' => ∃ p, e = .returned (Qf.told p i).val ∧ (Qf.told p i).In w' ∧ Below w.heap.size w w' := by
  go_enter Try.func27, Try.ntmps27
  go_wp2
  go_ret
  exact ⟨_, rfl, Blk.new w 3 [.int .i64 i], one_new _ _⟩
/-- The question, turned round, of the sight in block p. -/
theorem moments1_any (w : World) (q : Qf) (hq : q.In w) (s : Sn) (p : Nat) (hp : Blk w p 31 s.cells) : Calls Try.prog 35 #[q.val, .pointer (some ⟨p, 0, none⟩)] w (SaysB w (!q.sem s)) := by
  have c0 := hp.cell (i := 0) rfl
  have c1 := hp.cell (i := 1) rfl
  have c2 := hp.cell (i := 2) rfl
  have c3 := hp.cell (i := 3) rfl
  have c4 := hp.cell (i := 4) rfl
  clear hp
  cases q with
  | of b t =>
    have HQ := hid (of1_any w b t hq s)
    obtain ⟨co, tok, sb, se, id⟩ := s
    simp only [Sn.val] at HQ
    simp only [Qf.val, Qf.sem]
    generalize decide (tok = t) = D at *
    clear hq
    go_enter Try.func35, Try.ntmps35
    go_wp2_with fail
    refine HQ.out.mono ?_
    rintro e w' ⟨rfl, hb⟩
    go_wp2
    go_ret
    exact ⟨rfl, hb⟩
  | told b t =>
    have HQ := hid (told1_any w b t hq s)
    obtain ⟨co, tok, sb, se, id⟩ := s
    simp only [Sn.val] at HQ
    simp only [Qf.val, Qf.sem]
    generalize decide (id = t) = D at *
    clear hq
    go_enter Try.func35, Try.ntmps35
    go_wp2_with fail
    refine HQ.out.mono ?_
    rintro e w' ⟨rfl, hb⟩
    go_wp2
    go_ret
    exact ⟨rfl, hb⟩
  | co =>
    have HQ := hid (isCheckout_any w s)
    obtain ⟨co, tok, sb, se, id⟩ := s
    simp only [Sn.val] at HQ
    simp only [Qf.val, Qf.sem]
    clear hq
    go_enter Try.func35, Try.ntmps35
    go_wp2_with fail
    refine HQ.out.mono ?_
    rintro e w' ⟨rfl, hb⟩
    go_wp2
    go_ret
    exact ⟨rfl, hb⟩
  | st =>
    have HQ := hid (isStatus_any w s)
    obtain ⟨co, tok, sb, se, id⟩ := s
    simp only [Sn.val] at HQ
    simp only [Qf.val, Qf.sem]
    clear hq
    generalize (!co) = D at HQ ⊢
    go_enter Try.func35, Try.ntmps35
    go_wp2_with fail
    refine HQ.out.mono ?_
    rintro e w' ⟨rfl, hb⟩
    go_wp2
    go_ret
    exact ⟨rfl, hb⟩
  | en =>
    have HQ := hid (ended_any w s)
    obtain ⟨co, tok, sb, se, id⟩ := s
    simp only [Sn.val] at HQ
    simp only [Qf.val, Qf.sem]
    generalize decide (se ≠ 0) = D at *
    clear hq
    go_enter Try.func35, Try.ntmps35
    go_wp2_with fail
    refine HQ.out.mono ?_
    rintro e w' ⟨rfl, hb⟩
    go_wp2
    go_ret
    exact ⟨rfl, hb⟩
end Go.Proofs.Ytfjmhfbmphdjiaa
