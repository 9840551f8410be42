/-
  The law's 'does' of every change, beside a new disk of the document's: the program's disk is one, and any number of calls is left.
-/
import Derived.Test.YtjfohnkfcfifeaaRyC4
import Derived.Test.YtjfohnkfcfifeaaRyD
import Derived.Test.YtjfohnkfcfifeaaDiskO
import Derived.Test.YtjfohnkfcfifeaaDiskV
import Derived.Deep.OwnRows
import Derived.Laws.OwnMore
namespace Go.Proofs.Ytjfohnkfcfifeaa
open Go.RowKit Go.Maps
section
variable {w V : World} {p bm x : Nat} {size sz c c' er y : Int} {fs fs' : List Fl} {g g2 : Xd}
theorem Dk.new (h : DiskIn w.heap.size w V p bm size c fs) (h0 : 0 ≤ y) (h1 : y ≤ 268435456) : Dk w (V.alloc (.cells #[.int .i64 y, .slice none 0 0, .bool false, .int .i64 0] 43)) p bm size c fs V.heap.size y ⟨[], false, 0⟩ := by
  obtain ⟨D, hd, hf, hb, hB⟩ := h
  exact ⟨D, none, 0, hd.alloc _, XdAt.new V y _ h0 h1, hf, hB, hb.alloc hB _⟩
theorem Dk.in (h : Dk w V p bm size c fs x sz g) : DiskIn w.heap.size w V p bm size c fs := by
  obtain ⟨D, eo, cap, h⟩ := h
  exact ⟨D, h.da, h.foot, h.bel, h.bel.size⟩
theorem counted_never : counted (-1) = -1 := by unfold counted; rw [if_neg (by omega)]
theorem appR_never {s : ByteArray} {len : Nat} {bs : List Int} (h : AppR size (-1) fs s len bs er fs' c') : c' = -1 := by
  rcases h with ⟨_, _, _, h⟩ | ⟨_, _, _, _, h⟩ | ⟨_, _, _, _, _, h⟩ | ⟨_, _, _, _, h, _⟩
  · exact h
  · exact h
  · exact h
  · rw [h, counted_never]
theorem synR_never {s : ByteArray} (h : SynR (-1) fs s er fs' c') : c' = -1 := by
  rcases h with ⟨_, _, _, h⟩ | ⟨_, _, _, _, h⟩ | ⟨_, _, _, _, h, _⟩
  · exact h
  · exact h
  · rw [h, counted_never]
theorem cutR_never {s : ByteArray} {m : Int} (h : CutR (-1) fs s m er fs' c') : c' = -1 := by
  rcases h with ⟨_, _, _, h⟩ | ⟨_, _, _, _, h⟩ | ⟨_, _, _, _, h⟩ | ⟨_, _, _, _, _, _, _, h, _⟩
  · exact h
  · exact h
  · exact h
  · rw [h, counted_never]
theorem remR_never {s : ByteArray} (h : RemR (-1) fs s er fs' c') : c' = -1 := by
  rcases h with ⟨_, _, _, h⟩ | ⟨_, _, _, _, h⟩ | ⟨_, _, _, h, _⟩
  · exact h
  · exact h
  · rw [h, counted_never]
theorem renR_never {s t : ByteArray} (h : RenR (-1) fs s t er fs' c') : c' = -1 := by
  rcases h with ⟨_, _, _, h⟩ | ⟨_, _, _, _, h⟩ | ⟨_, _, _, _, _, h⟩ | ⟨_, _, _, _, _, h, _⟩
  · exact h
  · exact h
  · exact h
  · rw [h, counted_never]
theorem Two.never {R : Int → List Fl → Int → Prop} {cd : Int} {e : Ending} {W : World} (h : Two R cd g2 w p bm size x sz e W) (hR : ∀ er fs' c', R er fs' c' → c' = -1) : ∃ b fs', e = .returned (.bool b) ∧ DiskIn w.heap.size w W p bm size (-1) fs' := by
  obtain ⟨er, fs', c', rfl, hr, hd⟩ := h
  have := hR _ _ _ hr
  subst this
  exact ⟨_, fs', rfl, hd.in⟩
/-- Whatever change it is. -/
theorem doesN (h : Dk w V p bm size (-1) fs x sz g) (o : OpV) (hok : o.Ok) (bs : List Int) (hH : Held w o.ba o.bl o.bc bs) (hms : o.bl ≤ 140737488355328) (hk : 1 ≤ o.kind ∧ o.kind ≤ 5) :
    Calls Try.prog 11 #[.pointer (some ⟨p, 0, none⟩), .pointer (some ⟨x, 0, none⟩), .agg o.cells.toArray] V fun e W => ∃ b fs', e = .returned (.bool b) ∧ DiskIn w.heap.size w W p bm size (-1) fs' := by
  have hk' : o.kind = 1 ∨ o.kind = 2 ∨ o.kind = 3 ∨ o.kind = 4 ∨ o.kind = 5 := by omega
  rcases hk' with hk | hk | hk | hk | hk
  · exact (doesR_1 h o hok bs hH hms hk).mono (fun e W ht => ht.never (fun _ _ _ hr => appR_never hr))
  · exact (doesR_2 h o hok hk).mono (fun e W ht => ht.never (fun _ _ _ hr => synR_never hr))
  · exact (doesR_3 h o hok hk).mono (fun e W ht => ht.never (fun _ _ _ hr => cutR_never hr))
  · exact (doesR_4 h o hok hk).mono (fun e W ht => ht.never (fun _ _ _ hr => renR_never hr))
  · exact (doesR_5 h o hok hk).mono (fun e W ht => ht.never (fun _ _ _ hr => remR_never hr))
end
end Go.Proofs.Ytjfohnkfcfifeaa
/-
  Package disk: what files have together; appends that fill the disk.
-/
namespace Go.Proofs.Ytjfohnkfcfifeaa
open Go.RowKit Go.Maps

theorem strOf_len (p : List Int) : (strOfNums p).size = p.length := by
  simp [strOfNums, ByteArray.size]
theorem flatF_get : ∀ {gs : List Fl} {j : Nat} (h : j < gs.length), (flatF gs)[j * 3 + 1]? = some (.string (strOfNums gs[j].bytes))
  | g :: gs, 0, _ => by simp [flatF, Fl.cells]
  | g :: gs, j + 1, h => by
    have hj : j < gs.length := by simpa using h
    have := flatF_get hj
    have e1 : (j + 1) * 3 + 1 = j * 3 + 1 + 1 + 1 + 1 := by omega
    rw [e1]
    simpa [flatF, Fl.cells] using this
theorem total_take {gs : List Fl} {j : Nat} (h : j < gs.length) : total (gs.take (j + 1)) = total (gs.take j) + gs[j].bytes.length := by
  rw [List.take_succ_eq_append_getElem h, total_snoc]
theorem total_perm {gs fs : List Fl} (h : gs.Perm fs) : total gs = total fs := by
  induction h with
  | nil => rfl
  | cons x _ ih => simp only [total]; omega
  | swap x y l => simp only [total]; omega
  | trans _ _ h1 h2 => omega
theorem total_take_le (gs : List Fl) (j : Nat) : total (gs.take j) ≤ total gs := by
  have h := total_app (gs.take j) (gs.drop j)
  rw [List.take_append_drop] at h
  omega
theorem held_made (w : World) (n : Nat) (hn : n ≤ maxLen) : Held (w.alloc (.cells (madeCells #[.int .u8 0] n) 5)) (some ⟨w.heap.size, 0, none⟩) n n (List.replicate n 0) := by
  have hcs : madeCells #[Value.int .u8 0] n = (nums (List.replicate n 0)).toArray := by
    apply Array.ext'
    rw [toList_madeCells_one]
    simp [nums]
  rw [hcs]
  refine ⟨by simp, Nat.le_refl _, hn, fun h => (by cases h), fun c hc => by have := List.eq_of_mem_replicate hc; omega, fun ad ha j hj => ?_, fun ad ha _ => ?_⟩
  · cases ha
    rw [Addr.add_lit]
    refine (Blk.new w 5 (nums (List.replicate n 0))).cell (i := 0 + j) ?_
    simp [nums, hj]
  · cases ha
    simp
theorem name_new : nameS ⟨#[110, 101, 119]⟩ = true := by decide
section
variable {B : Nat} {w w1 : World} {p bm : Nat} {size : Int} {fs : List Fl}
theorem fill_over (h : DiskIn B w w1 p bm size (-1) fs) (ao : Option Addr) (len cap : Nat) (bs : List Int) (hB : Held w1 ao len cap bs) (hov : size < (total fs : Int) + len) :
    Calls Try.prog 9 #[.pointer (some ⟨p, 0, none⟩), .string ⟨#[110, 101, 119]⟩, .slice ao len cap] w1 fun e w' => e = .returned (.int .i64 2) ∧ DiskIn B w w' p bm size (-1) fs := by
  obtain ⟨D, hd, _⟩ := id h
  refine (append_any hd (by decide) _ (by unfold maxLen; decide) ao len cap bs hB).mono ?_
  rintro e w' ⟨er, rfl, h1 | h1 | h1⟩
  · have := h1.1
    rw [name_new] at this
    cases this
  · rw [h1.2.2.1]
    exact ⟨rfl, h.now h1.2.2.2⟩
  · have := h1.2.1
    omega
theorem fill_up (h : DiskIn B w w1 p bm size (-1) fs) (ao : Option Addr) (len cap : Nat) (bs : List Int) (hB : Held w1 ao len cap bs) (hex : (total fs : Int) + len = size) (hf : fs.length < 64) :
    Calls Try.prog 9 #[.pointer (some ⟨p, 0, none⟩), .string ⟨#[110, 101, 119]⟩, .slice ao len cap] w1 fun e w' => e = .returned (.int .i64 0) ∧ ∃ fs', DiskIn B w w' p bm size (-1) fs' ∧ (total fs' : Int) = size := by
  obtain ⟨D, hd, _⟩ := id h
  have hbl := hB.hlen
  refine (append_any hd (by decide) _ (by unfold maxLen; decide) ao len cap bs hB).mono ?_
  rintro e w' ⟨er, rfl, h1 | h1 | h1⟩
  · have := h1.1
    rw [name_new] at this
    cases this
  · rcases h1.2.1 with h2 | ⟨_, h2⟩ <;> omega
  · rw [h1.2.2.1]
    refine ⟨rfl, ?_⟩
    rcases h1.2.2.2 with ⟨_, _, q, v', hn⟩ | ⟨f, v', hff, hn⟩
    · refine ⟨_, h.now hn, ?_⟩
      rw [total_snoc]
      show ((total fs + bs.length : Nat) : Int) = size
      omega
    · refine ⟨_, h.now hn, ?_⟩
      have hm := ffind_mem hff
      have ht := total_setF hd.names (f := f) (f' := { f with v := v', bytes := f.bytes ++ bs }) hm.1 rfl
      have hl : ({ f with v := v', bytes := f.bytes ++ bs } : Fl).bytes.length = f.bytes.length + bs.length := by simp
      rw [hl] at ht
      omega
end
end Go.Proofs.Ytjfohnkfcfifeaa
