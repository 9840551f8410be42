/-
  Package disk: what becomes of a disk when one file is written, added, or goes; change, changeFile, giveName.
-/
import Derived.Test.YtjfohnkfcfifeaaDiskB
import Derived.Deep.QuietTactic
import Derived.BigQuiet
namespace Go.Proofs.Ytjfohnkfcfifeaa
open Go.RowKit Go.Maps

/-- The files, with f in the place of the one of its name. -/
def setF (fs : List Fl) (f : Fl) : List Fl := fs.map (fun g => if g.name = f.name then f else g)
theorem setF_len (fs : List Fl) (f : Fl) : (setF fs f).length = fs.length := by simp [setF]
theorem setF_mem {fs : List Fl} {f g : Fl} (h : g ∈ setF fs f) : g = f ∨ (g ∈ fs ∧ g.name ≠ f.name) := by
  obtain ⟨x, hx, rfl⟩ := List.mem_map.1 h
  by_cases e : x.name = f.name
  · rw [if_pos e]
    exact .inl rfl
  · rw [if_neg e]
    exact .inr ⟨hx, e⟩
theorem setF_find (fs : List Fl) (f : Fl) (s : ByteArray) : ffind (setF fs f) s = if s = f.name then (ffind fs s).map (fun _ => f) else ffind fs s := by
  unfold ffind setF
  induction fs with
  | nil => simp
  | cons g r ih =>
    rw [List.map_cons, List.find?_cons, List.find?_cons, ih]
    by_cases e : g.name = f.name
    · rw [if_pos e]
      by_cases hs : s = f.name
      · subst hs
        simp [e]
      · have h1 : ¬ f.name = s := fun h => hs h.symm
        have h2 : ¬ g.name = s := fun h => hs (by rw [← h, e])
        simp [hs, h1, h2]
    · rw [if_neg e]
      by_cases hg : g.name = s
      · subst hg
        simp [e]
      · simp [hg]
theorem total_setF : ∀ {fs : List Fl} (_ : fs.Pairwise (fun f g => f.name ≠ g.name)) {f f' : Fl} (_ : f ∈ fs) (_ : f'.name = f.name), total (setF fs f') + f.bytes.length = total fs + f'.bytes.length
  | g :: r, hn, f, f', hf, he => by
    obtain ⟨h1, h2⟩ := List.pairwise_cons.1 hn
    rcases List.mem_cons.1 hf with e | hf'
    · subst e
      have hr : setF r f' = r := by
        unfold setF
        conv => rhs; rw [← List.map_id r]
        refine List.map_congr_left (fun x hx => ?_)
        rw [if_neg (fun e => h1 x hx (by rw [e, he]))]
        rfl
      have : setF (f :: r) f' = f' :: r := by
        rw [setF, List.map_cons, if_pos he.symm]
        exact congrArg _ hr
      rw [this, total, total]
      omega
    · have : setF (g :: r) f' = g :: setF r f' := by
        rw [setF, List.map_cons, if_neg (fun e => h1 f hf' (by rw [e, he]))]
        rfl
      have ih := total_setF h2 hf' he
      rw [this, total, total]
      omega

section
variable {w w' : World} {p bm : Nat} {size calls : Int} {fs : List Fl} {D : DataW Value}

/-- No file has the disk's own blocks. -/
theorem DiskAt.own_p (h : DiskAt w p bm size calls fs D) {f : Fl} (hf : f ∈ fs) : ¬ f.Foot p := by
  have hfa := h.files f hf
  rintro (e | e)
  · have h1 : w.heap[p]? = some (.cells [.int .i64 size, .map (some bm), .int .i64 calls].toArray 51 (0, 0)) := h.blk
    have h2 : w.heap[f.ptr]? = some (.cells [f.v, .int .i64 f.sure].toArray 60 (0, 0)) := hfa.blk
    rw [← e, h1] at h2
    simp at h2
  · exact h.blk.not_row (by decide) hfa.row e.symm
theorem DiskAt.own_m (h : DiskAt w p bm size calls fs D) {f : Fl} (hf : f ∈ fs) : ¬ f.Foot bm := by
  have hfa := h.files f hf
  rintro (e | e)
  · exact hfa.blk.not_map h.map e.symm
  · exact row_not_map hfa.row h.map e.symm
theorem DiskAt.p_m (h : DiskAt w p bm size calls fs D) : p ≠ bm := h.blk.not_map h.map

theorem pair_setF {fs : List Fl} {f f' : Fl} (hp : fs.Pairwise (fun f g => ∀ i, f.Foot i → ¬ g.Foot i)) (hn : fs.Pairwise (fun f g => f.name ≠ g.name)) (hf : f ∈ fs) (he : f'.name = f.name) {N : Nat} (hl : ∀ g ∈ fs, ∀ i, g.Foot i → i < N) (hF : ∀ i, f'.Foot i → f.Foot i ∨ N ≤ i) :
    (setF fs f').Pairwise (fun f g => ∀ i, f.Foot i → ¬ g.Foot i) ∧ (setF fs f').Pairwise (fun f g => f.name ≠ g.name) := by
  have key : ∀ x ∈ fs, x.name ≠ f'.name → (∀ i, f'.Foot i → ¬ x.Foot i) := by
    intro x hx hxn i hi hxi
    rcases hF i hi with h1 | h1
    · -- f and x are apart
      have hne : x ≠ f := fun e => hxn (by rw [e, he])
      obtain ⟨a, ha, rfl⟩ := List.mem_iff_getElem.1 hx
      obtain ⟨b, hb, rfl⟩ := List.mem_iff_getElem.1 hf
      rcases Nat.lt_trichotomy a b with hab | hab | hab
      · exact List.pairwise_iff_getElem.1 hp a b ha hb hab i hxi h1
      · subst hab
        exact hne rfl
      · exact List.pairwise_iff_getElem.1 hp b a hb ha hab i h1 hxi
    · have := hl x hx i hxi
      omega
  constructor
  · unfold setF
    rw [List.pairwise_map]
    refine (hp.and hn).imp_of_mem (fun {a b} ha hb hab => ?_)
    by_cases ea : a.name = f'.name
    · by_cases eb : b.name = f'.name
      · exact absurd (ea.trans eb.symm) hab.2
      · rw [if_pos ea, if_neg eb]
        exact key b hb eb
    · by_cases eb : b.name = f'.name
      · rw [if_neg ea, if_pos eb]
        exact fun i h1 h2 => key a ha ea i h2 h1
      · rw [if_neg ea, if_neg eb]
        exact hab.1
  · unfold setF
    rw [List.pairwise_map]
    refine hn.imp (fun {a b} hab => ?_)
    by_cases ea : a.name = f'.name
    · by_cases eb : b.name = f'.name
      · exact absurd (ea.trans eb.symm) hab
      · rw [if_pos ea, if_neg eb]
        exact fun e => eb e.symm
    · by_cases eb : b.name = f'.name
      · rw [if_neg ea, if_pos eb]
        exact ea
      · rw [if_neg ea, if_neg eb]
        exact hab

/-- One file is written. -/
theorem DiskAt.setF (h : DiskAt w p bm size calls fs D) {f f' : Fl} (hf : ffind fs f'.name = some f) (hptr : f'.ptr = f.ptr) (hat : FlAt w' f') (ht : Turns f.Foot w w') (hF : ∀ i, f'.Foot i → f.Foot i ∨ w.heap.size ≤ i) (hroom : (total fs : Int) - f.bytes.length + f'.bytes.length ≤ size) :
    DiskAt w' p bm size calls (setF fs f') D := by
  obtain ⟨hm, hn⟩ := ffind_mem hf
  have hpair := pair_setF h.apart h.names hm hn.symm (fun g hg => (h.files g hg).foot_lt) hF
  refine ⟨ht.blk h.blk (h.own_p hm), ?_, ?_, fun s => ?_, fun g hg => ?_, hpair.1, hpair.2, fun g hg => ?_, ?_, ?_, h.big, h.calls⟩
  · rw [setF_len]
    exact ht.map h.map (h.own_m hm)
  · rw [setF_len]
    exact h.cnt
  · rw [setF_find, h.look]
    by_cases e : s = f'.name
    · subst e
      rw [if_pos rfl, hf]
      simp [Fl.at, hptr]
    · rw [if_neg e]
  · rcases setF_mem hg with rfl | ⟨hg', hne⟩
    · exact hat
    · refine (h.files g hg').turned ht (fun i hi hfi => ?_)
      have hne' : g ≠ f := fun e => hne (by rw [e, hn])
      obtain ⟨a, ha, rfl⟩ := List.mem_iff_getElem.1 hg'
      obtain ⟨b, hb, rfl⟩ := List.mem_iff_getElem.1 hm
      rcases Nat.lt_trichotomy a b with hab | hab | hab
      · exact List.pairwise_iff_getElem.1 h.apart a b ha hb hab i hi hfi
      · subst hab
        exact hne' rfl
      · exact List.pairwise_iff_getElem.1 h.apart b a hb ha hab i hfi hi
  · rcases setF_mem hg with rfl | ⟨hg', _⟩
    · have := h.good f hm
      rwa [hn] at this
    · exact h.good g hg'
  · rw [setF_len]
    exact h.few
  · have := total_setF h.names hm hn.symm
    omega

theorem DiskAt.setCalls (h : DiskAt w p bm size calls fs D) (c : Int) (hc : -9223372036854775808 ≤ c ∧ c ≤ 9223372036854775807) : DiskAt (w.setCell ⟨p, 2, none⟩ (.int .i64 c)) p bm size c fs D := by
  have ht : Turns (fun i => i = p) w (w.setCell ⟨p, 2, none⟩ (.int .i64 c)) := Turns.setCell (F := fun i => i = p) (Turns.refl _ w) (p := ⟨p, 2, none⟩) (.inl rfl) _
  refine ⟨h.blk.set 2 _, ht.map h.map (fun e => h.p_m e.symm), h.cnt, h.look, fun f hf => (h.files f hf).turned ht (fun i hi e => ?_), h.apart, h.names, h.good, h.few, h.room, h.big, hc⟩
  subst e
  exact h.own_p hf hi
end
end Go.Proofs.Ytjfohnkfcfifeaa
/-
  Package disk: change, giveName, changeFile over whatever closure; Sync.
-/
namespace Go.Proofs.Ytjfohnkfcfifeaa
open Go.RowKit Go.Maps

/-- The closures that change, giveName and changeFile are handed. -/
def Doer (F : Nat) : Prop := F = 21 ∨ F = 54 ∨ F = 48

theorem change_nil (w : World) (F : Nat) (lb : Array Value) : Calls Try.prog 46 #[.pointer none, .func (.func F) #[] lb] w fun e w' => e = .returned (.int .i64 6) ∧ w' = w := by
  go_enter Try.func46, Try.ntmps46
  go_wp2_with fail
  refine (dclosed_nil _).mono ?_
  rintro e w' ⟨rfl, rfl⟩
  go_wp2
  go_ret
  exact ⟨rfl, rfl⟩

section
variable {w : World} {p bm : Nat} {size calls : Int} {fs : List Fl} {D : DataW Value}
theorem change_off (h : DiskAt w p bm size calls fs D) (hc : calls = 0) (F : Nat) (lb : Array Value) : Calls Try.prog 46 #[.pointer (some ⟨p, 0, none⟩), .func (.func F) #[] lb] w fun e w' => e = .returned (.int .i64 31) ∧ w' = w := by
  subst hc
  have HCL := hid h.closed
  have HO := hid (off_any h)
  clear h
  go_enter Try.func46, Try.ntmps46
  go_wp2_with fail
  refine HCL.out.mono ?_
  rintro e w' ⟨rfl, rfl⟩
  go_wp2_with fail
  refine HO.out.mono ?_
  rintro e w' ⟨rfl, rfl⟩
  go_wp2
  go_ret
  exact ⟨rfl, rfl⟩

/-- What a call that is OK leaves of the count. -/
def counted (calls : Int) : Int := if 0 < calls then calls - 1 else calls

set_option maxHeartbeats 1000000 in
/-- A change that is carried out: by what the closure leaves. -/
theorem change_do (h : DiskAt w p bm size calls fs D) (hc : calls ≠ 0) {F : Nat} (hF : Doer F) (lb : Array Value) (R : Int → World → Prop)
    (hdo : Calls Try.prog F lb w fun e w' => ∃ er, e = .returned (.int .i64 er) ∧ R er w' ∧ w'.cell? ⟨p, 2, none⟩ = some (.int .i64 calls) ∧ w'.frozen? ⟨p, 2, none⟩ = false) :
    Calls Try.prog 46 #[.pointer (some ⟨p, 0, none⟩), .func (.func F) #[] lb] w fun e w' => ∃ er w1, e = .returned (.int .i64 er) ∧ R er w1 ∧ w' = if er = 0 ∧ 0 < calls then w1.setCell ⟨p, 2, none⟩ (.int .i64 (calls - 1)) else w1 := by
  have HCL := hid h.closed
  have ho := off_any h
  rw [show (calls == 0) = false from beq_eq_false_iff_ne.2 hc] at ho
  have HO := hid ho
  have hcb := h.calls
  have hc0 := hcb.1
  have hc1 := hcb.2
  have HDO := hid hdo
  clear h ho hdo hcb hc
  rcases hF with rfl | rfl | rfl
  all_goals
    go_enter Try.func46, Try.ntmps46
    go_wp2_with fail
    refine HCL.out.mono ?_
    rintro e w' ⟨rfl, h'⟩
    subst h'
    go_wp2_with fail
    refine HO.out.mono ?_
    rintro e w' ⟨rfl, h'⟩
    subst h'
    go_wp2_with fail
    refine HDO.out.mono ?_
    rintro e w1 ⟨er, rfl, hR, hcell, hfz⟩
    have HR := hid hR
    clear hR
    by_cases he : er = 0
    · subst he
      by_cases hp : 0 < calls
      · go_wp2
        go_ret
        exact ⟨0, w1, rfl, HR.out, by rw [if_pos ⟨rfl, hp⟩]⟩
      · go_wp2
        go_ret
        exact ⟨0, w1, rfl, HR.out, by rw [if_neg (fun h => absurd h.2 (by omega))]⟩
    · have he' : (er == 0) = false := beq_eq_false_iff_ne.2 he
      have HE := hid he
      clear he
      go_wp2
      go_ret
      exact ⟨er, w1, rfl, HR.out, by rw [if_neg (fun h => HE.out h.1)]⟩
end
end Go.Proofs.Ytjfohnkfcfifeaa
