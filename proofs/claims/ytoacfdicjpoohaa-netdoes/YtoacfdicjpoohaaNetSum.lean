/-
  Package net: Send, Take, Twice of a bag that the call itself made, each in one contract.
-/
import Derived.Test.YtoacfdicjpoohaaNetE
namespace Go.Proofs.Ytoacfdicjpoohaa
open Go.RowKit Go.Maps

/-- What a call that may give an Id answers: the next one and OK, or 0 and an error. -/
def Given (last id f last' : Int) : Prop := (f = 0 ∧ id = last + 1 ∧ last' = last + 1) ∨ (¬ f = 0 ∧ id = 0 ∧ last' = last)

section
variable {B : Nat} {w0 w : World} {p bm : Nat} {nodes last : Int} {ps : List Pk}

theorem send_sum (h : NetIn B w0 w p bm nodes last ps) (hlast : last ≤ 4611686018427387904) (f t : Int) (s : ByteArray) :
    Calls Try.prog 7 #[.pointer (some ⟨p, 0, none⟩), .int .i64 f, .int .i64 t, .string s] w fun e w' => ∃ id er last' ps', e = .returned (.tuple #[.int .i64 id, .int .i64 er]) ∧ Given last id er last' ∧ NetIn B w0 w' p bm nodes last' ps' := by
  have h' := h
  obtain ⟨v, D, hn, hF, hb, hB⟩ := h
  by_cases hbad : (0 ≤ f ∧ f < nodes) ∧ (0 ≤ t ∧ t < nodes)
  · obtain ⟨⟨f0, f1⟩, t0, t1⟩ := hbad
    by_cases hs : 65536 < s.size
    · refine (send_long hn f t s f0 f1 t0 t1 hs).mono ?_
      rintro e w' ⟨rfl, rfl⟩
      exact ⟨0, 3, last, ps, rfl, .inr ⟨by decide, rfl, rfl⟩, h'⟩
    · by_cases hl : ps.length < 65536
      · refine (send_ok hn f t s f0 f1 t0 t1 hs hl hlast).mono ?_
        rintro e w' ⟨rfl, hg⟩
        exact ⟨last + 1, 0, last + 1, _, rfl, .inl ⟨rfl, rfl, rfl⟩, NetIn.gave hF hb hB hg⟩
      · refine (send_full hn f t s f0 f1 t0 t1 hs (by omega)).mono ?_
        rintro e w' ⟨rfl, hg⟩
        exact ⟨0, 2, last, ps, rfl, .inr ⟨by decide, rfl, rfl⟩, NetIn.below hn hF hb hB hg⟩
  · refine (send_arg hn f t s hbad).mono ?_
    rintro e w' ⟨rfl, rfl⟩
    exact ⟨0, 1, last, ps, rfl, .inr ⟨by decide, rfl, rfl⟩, h'⟩

theorem twice_sum (h : NetIn B w0 w p bm nodes last ps) (hlast : last ≤ 4611686018427387904) (x : Int) (h0 : -9223372036854775808 ≤ x) (h1 : x ≤ 9223372036854775807) :
    Calls Try.prog 11 #[.pointer (some ⟨p, 0, none⟩), .int .i64 x] w fun e w' => ∃ id er last' ps', e = .returned (.tuple #[.int .i64 id, .int .i64 er]) ∧ Given last id er last' ∧ NetIn B w0 w' p bm nodes last' ps' := by
  obtain ⟨v, D, hn, hF, hb, hB⟩ := h
  cases hf : found ps x with
  | none =>
    refine (twice_none hn x h0 h1 hf).mono ?_
    rintro e w' ⟨rfl, hg⟩
    exact ⟨0, 4, last, ps, rfl, .inr ⟨by decide, rfl, rfl⟩, NetIn.below hn hF hb hB hg⟩
  | some q =>
    by_cases hl : ps.length < 65536
    · refine (twice_ok hn x h0 h1 hf hl hlast).mono ?_
      rintro e w' ⟨rfl, hg⟩
      exact ⟨last + 1, 0, last + 1, _, rfl, .inl ⟨rfl, rfl, rfl⟩, NetIn.gave hF hb hB hg⟩
    · refine (twice_full hn x h0 h1 hf (by omega)).mono ?_
      rintro e w' ⟨rfl, hg⟩
      exact ⟨0, 2, last, ps, rfl, .inr ⟨by decide, rfl, rfl⟩, NetIn.below hn hF hb hB hg⟩

theorem take_sum (h : NetIn B w0 w p bm nodes last ps) (hlast : last ≤ 4611686018427387904) (x : Int) (h0 : -9223372036854775808 ≤ x) (h1 : x ≤ 9223372036854775807) :
    Calls Try.prog 9 #[.pointer (some ⟨p, 0, none⟩), .int .i64 x] w fun e w' => ∃ a b c s er ps', e = .returned (.tuple #[.agg #[.int .i64 a, .int .i64 b, .int .i64 c, .string s], .int .i64 er]) ∧ NetIn B w0 w' p bm nodes last ps' := by
  obtain ⟨v, D, hn, hF, hb, hB⟩ := h
  cases hf : found ps x with
  | none =>
    refine (take_none hn x h0 h1 hf).mono ?_
    rintro e w' ⟨rfl, hg⟩
    exact ⟨0, 0, 0, ⟨#[]⟩, 4, ps, rfl, NetIn.below hn hF hb hB hg⟩
  | some q =>
    obtain ⟨k, hk, rfl, rfl⟩ := at_found hf
    refine (take_ok hn hk hlast).mono ?_
    rintro e w' ⟨rfl, hg⟩
    exact ⟨_, _, _, _, 0, _, rfl, NetIn.took hF hb hB hg⟩

theorem NetIn.drew (h : NetIn B w0 w p bm nodes last ps) : NetIn B w0 w.drew p bm nodes last ps := by
  obtain ⟨v, D, hn, hF, hb, hB⟩ := h
  exact ⟨v, D, hn.drew, hF, hb.drew, hB⟩
theorem NetIn.bel (h : NetIn B w0 w p bm nodes last ps) : Below B w0 w := by
  obtain ⟨v, D, hn, hF, hb, hB⟩ := h
  exact hb
theorem NetIn.later (h : NetIn B w0 w p bm nodes last ps) {w' : World} (hw : Below w.heap.size w w') : NetIn B w0 w' p bm nodes last ps := by
  obtain ⟨v, D, hn, hF, hb, hB⟩ := h
  exact NetIn.below hn hF hb hB hw
end
end Go.Proofs.Ytoacfdicjpoohaa
