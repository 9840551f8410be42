/-
  CodecApart: unlike messages, unlike events have unlike bytes; what codec.Msg and codec.Event tell, in one form; how an api.Event is read.
-/
import Derived.Test.YtjjgojjllbdpkaaSaC
import Derived.Test.YtjjgojjllbdpkaaEvMay
import Derived.Test.YtjjgojjllbdpkaaLives
import Derived.Test.YtjjgojjllbdpkaaBalOpen
import Derived.Test.YtjjgojjllbdpkaaMsgOpen
import Derived.Test.YtjjgojjllbdpkaaEvSized
namespace Go.Proofs.Ytjjgojjllbdpkaa
open Go.RowKit Go.Maps Go.ChangeShapes Go.WideShapes Go.Deep

theorem encByP (x : Nat) : AllB (enc x) := enc_byte x
theorem encNC_byP : ∀ v : List Int, AllB (encNC v)
  | [] => fun c h => (by cases h)
  | x :: r => (encByP _).append (encNC_byP r)
theorem encVC_byP (v : List Int) : AllB (encVC v) := (encByP _).append (encNC_byP v)
theorem encText_byP (s : ByteArray) : AllB (encText s) := (encByP _).append (strNums_byte s)
theorem encBC_byP (b : Bool) : AllB (encBC b) := fun c h => by cases b <;> simp [encBC] at h <;> omega
theorem encSe_byP (e : En) : AllB (encSe e) := (((encText_byP _).append (encText_byP _)).append (encByP _)).append (encVC_byP _)
theorem encEn_byP (e : En) : AllB (encEn e) := (encBC_byP _).append (by split; exact fun c h => (by cases h); exact encSe_byP e)
theorem encVo_byP (x : VoM) : AllB (encVo x) := ((encByP _).append ((encByP _).append (encByP _))).append (encEn_byP _)
theorem encEvC_byP (e : Ev) : AllB (encEvC e) := (((((((encByP _).append (encByP _)).append (encVC_byP _)).append (encText_byP _)).append (encByP _)).append (encText_byP _)).append (encByP _)).append (encBC_byP _)
theorem encMs_byP (x : MsM) : AllB (encMs x) := by
  have h1 : AllB (encVos x.vs) := (encByP _).append (fun c h => by obtain ⟨y, _, hy⟩ := List.mem_flatMap.1 h; exact encVo_byP y c hy)
  have h2 : AllB (encEvs x.evs) := (encByP _).append (fun c h => by obtain ⟨y, _, hy⟩ := List.mem_flatMap.1 h; exact encEvC_byP y.e c hy)
  exact (((((((((encByP _).append (encByP _)).append (encByP _)).append ((encByP _).append (encByP _))).append (encByP _)).append (encEn_byP _)).append h1).append (encVC_byP _)).append h2).append (encByP _)
theorem encN_same : ∀ v : List Int, encN v = encNC v
  | [] => rfl
  | x :: r => by simp only [encN, encNC, encN_same r]
theorem encEv_same (e : Ev) : encEv e = encEvC e := by
  unfold encEv encEvC encV encVC
  rw [encN_same]
  rfl
theorem rightEv_same (e : Ev) : RightEv e = RightEvC e := rfl
theorem strOf_inj {a b : List Int} (ha : AllB a) (hb : AllB b) (h : strOfNums a = strOfNums b) : a = b := by
  rw [← strNums_ofR ha, ← strNums_ofR hb, h]
theorem encMs_apart {x y : MsM} (hx : RightMs x = true) (hy : RightMs y = true) : decide (strOfNums (encMs x) = strOfNums (encMs y)) = decide (x.d = y.d) := by
  rw [decide_eq_decide]
  constructor
  · intro h
    have e := strOf_inj (encMs_byP x) (encMs_byP y) h
    have h1 := pMsg_reads.fwd x.d [] (rightMs_d hx)
    have h2 := pMsg_reads.fwd y.d [] (rightMs_d hy)
    rw [← encMs_d, List.append_nil] at h1 h2
    rw [e, h2] at h1
    exact (Prod.mk.inj (Option.some.inj h1)).1.symm
  · intro h
    rw [encMs_d, encMs_d, h]
theorem encEv_apart {x y : Ev} (hx : RightEv x = true) (hy : RightEv y = true) : decide (strOfNums (encEv x) = strOfNums (encEv y)) = decide (x = y) := by
  rw [decide_eq_decide]
  constructor
  · intro h
    have e := strOf_inj (by rw [encEv_same]; exact encEvC_byP x) (by rw [encEv_same]; exact encEvC_byP y) h
    have h1 := pEvent_reads.fwd x [] (by rw [← rightEv_same]; exact hx)
    have h2 := pEvent_reads.fwd y [] (by rw [← rightEv_same]; exact hy)
    rw [← encEv_same, List.append_nil] at h1 h2
    rw [e, h2] at h1
    exact (Prod.mk.inj (Option.some.inj h1)).1.symm
  · rintro rfl
    rfl
/-- What a writer tells: bytes that are held, where it is no error. -/
def Tells (ok : Bool) (bs : List Int) (w : World) (e : Ending) (w' : World) : Prop :=
  ∃ ao n cp c, e = .returned (.tuple #[.slice ao n cp, .int .i64 c]) ∧ (c = 0 → ok = true ∧ Held w' ao n cp bs) ∧ Below w.heap.size w w'
theorem msgT (w : World) (x : MsM) (hx : MsOk w x) : Calls Try.prog 4 #[x.val] w (Tells (RightMs x) (encMs x) w) := by
  refine (msg_any w x hx).mono ?_
  rintro e w' ⟨h1, h2⟩
  by_cases hr : RightMs x = true
  · rw [if_pos hr] at h2
    by_cases hl : (encMs x).length ≤ 65536
    · rw [if_pos hl] at h2
      obtain ⟨v, rfl, h3⟩ := h2
      obtain ⟨ao, cap, rfl, hh⟩ := held_of_own h3 (encMs_byP x)
      exact ⟨ao, _, cap, 0, rfl, fun _ => ⟨hr, hh⟩, h1⟩
    · rw [if_neg hl] at h2
      exact ⟨none, 0, 0, 3, h2, fun h => by omega, h1⟩
  · rw [if_neg hr] at h2
    exact ⟨none, 0, 0, 1, h2, fun h => by omega, h1⟩
theorem eventT (w : World) (x : EvM) (hx : EvOk w x) : Calls Try.prog 5 #[x.val] w (Tells (RightEv x.e) (encEv x.e) w) := by
  refine (event_any w x hx).mono ?_
  rintro e w' ⟨h2, h1⟩
  by_cases hr : RightEv x.e = true
  · rw [if_pos hr] at h2
    obtain ⟨v, rfl, h3⟩ := h2
    obtain ⟨ao, cap, rfl, hh⟩ := held_of_own h3 (by rw [encEv_same]; exact encEvC_byP x.e)
    exact ⟨ao, _, cap, 0, rfl, fun _ => ⟨hr, hh⟩, h1⟩
  · rw [if_neg hr] at h2
    exact ⟨none, 0, 0, 1, h2, fun h => by omega, h1⟩
theorem open_evk {H : Type} {enc : TypeId × Value → H} {w : World} {base b0 : Nat} {r : Reach} {held : Bool} {v : Value} {d : DataW H} {p : List MemPlace} (hv : Value.okWide Try.prog w r b0 36 v) (h : DataW.Trod enc Try.prog w base (fun _ => true) held 36 v d p) (hw : ∀ n ∈ d.weights Try.prog 36, n ≤ reachBytes) :
    ∃ o : EvM, v = o.val ∧ EvOk w o := by
  obtain ⟨cs, rfl, _⟩ := okWide_struct Try.underlying36 hv
  obtain ⟨fuel, hf⟩ := h
  obtain ⟨o, ho, hok⟩ := ev_sized hf hw
  refine ⟨o, ?_, hok⟩
  simp [Value.cells] at ho
  have e : cs = o.cells.toArray := Array.ext' ho
  rw [e]
  rfl
end Go.Proofs.Ytjjgojjllbdpkaa
