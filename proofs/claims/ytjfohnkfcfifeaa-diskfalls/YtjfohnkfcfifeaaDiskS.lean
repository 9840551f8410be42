/-
  Package disk: a file that gets another name; Sync at any input.
-/
import Derived.Test.YtjfohnkfcfifeaaDiskR
namespace Go.Proofs.Ytjfohnkfcfifeaa
open Go.RowKit Go.Maps

def Fl.named (f : Fl) (t : ByteArray) : Fl := { f with name := t }
/-- The files behind a Rename of f. -/
def renF (fs : List Fl) (f : Fl) (s t : ByteArray) : List Fl := delF (delF fs s) t ++ [f.named t]
theorem apart_of {fs : List Fl} (hp : fs.Pairwise (fun f g => ∀ i, f.Foot i → ¬ g.Foot i)) {f g : Fl} (hf : f ∈ fs) (hg : g ∈ fs) (hne : g ≠ f) : ∀ i, g.Foot i → ¬ f.Foot i := by
  intro i hi hfi
  obtain ⟨a, ha, rfl⟩ := List.mem_iff_getElem.1 hg
  obtain ⟨b, hb, rfl⟩ := List.mem_iff_getElem.1 hf
  rcases Nat.lt_trichotomy a b with hab | hab | hab
  · exact List.pairwise_iff_getElem.1 hp a b ha hb hab i hi hfi
  · subst hab
    exact hne rfl
  · exact List.pairwise_iff_getElem.1 hp b a hb ha hab i hfi hi
theorem total_app : ∀ (fs gs : List Fl), total (fs ++ gs) = total fs + total gs
  | [], gs => by simp [total]
  | f :: r, gs => by rw [List.cons_append, total, total, total_app r gs]; omega

section
variable {w w' : World} {p bm : Nat} {size calls : Int} {fs : List Fl} {D : DataW Value}
theorem diskAt_ren (h : DiskAt w p bm size calls fs D) {s t : ByteArray} {f : Fl} (hf : ffind fs s = some f) (hgood : nameS t = true) (ht : Turns (fun i => i = bm) w w') {n : Nat} (hown : w'.ownsMap Try.prog 9 valR bm n ((D.del (key s)).put (key t) (.held f.at))) (hdel : Tidy (D.del (key s))) (hall : AllHeld (D.del (key s))) (him : IsMap (D.del (key s))) :
    DiskAt w' p bm size calls (renF fs f s t) ((D.del (key s)).put (key t) (.held f.at)) := by
  obtain ⟨hm, hnm⟩ := ffind_mem hf
  have hkl : WideAt.IsKeyLit (key t) := by simp [key, WideAt.IsKeyLit]
  obtain ⟨hl, htot⟩ := delF_len h.names hf
  have hdn : (delF fs s).Pairwise (fun f g => f.name ≠ g.name) := h.names.filter _
  have hlook : ∀ u, look (D.del (key s)) (key u) = (ffind (delF fs s) u).map Fl.at := fun u => by
    rw [delF_find]
    by_cases e : u = s
    · subst e
      rw [if_pos rfl, look_del_same]
      rfl
    · rw [if_neg e, look_del_other (fun e' => e (key_inj e')), h.look]
  have hsz : Maps.size (D.del (key s)) = (delF fs s).length := by
    have hhas : Maps.has D (key s) = true := by rw [has_look (allHeld_of h.map), h.look, hf]; rfl
    have := size_del (k := key s) (h.map.tidy Try.keyedStr)
    rw [hhas, h.cnt] at this
    simp at this
    omega
  have hcnt : Maps.size ((D.del (key s)).put (key t) (.held f.at)) = (renF fs f s t).length := by
    rw [size_put hdel, has_look hall, hlook, hsz]
    unfold renF
    cases hx : ffind (delF fs s) t with
    | none =>
      rw [delF_none hx]
      simp
    | some g =>
      have := (delF_len hdn hx).1
      simp
      omega
  have hsub : ∀ g ∈ delF (delF fs s) t, g ∈ fs ∧ g ≠ f ∧ g.name ≠ t := fun g hg => by
    obtain ⟨h1, h2⟩ := mem_delF hg
    obtain ⟨h3, h4⟩ := mem_delF h1
    exact ⟨h3, fun e => h4 (by rw [e, hnm]), h2⟩
  have hle : (delF (delF fs s) t).length + 1 ≤ fs.length ∧ total (delF (delF fs s) t) + f.bytes.length ≤ total fs := by
    cases hx : ffind (delF fs s) t with
    | none =>
      rw [delF_none hx]
      omega
    | some g =>
      have := delF_len hdn hx
      omega
  refine ⟨ht.blk h.blk h.p_m, ownsMap_tight hown hcnt, hcnt, fun u => ?_, fun g hg => ?_, ?_, ?_, fun g hg => ?_, ?_, ?_, h.big, h.calls⟩
  · unfold renF ffind
    rw [List.find?_append]
    change _ = Option.map Fl.at ((ffind (delF (delF fs s) t) u).or _)
    by_cases e : u = t
    · subst e
      rw [look_put_same him hkl, delF_find, if_pos rfl]
      simp [Fl.named, Fl.at]
    · rw [look_put_other (fun e' => e (key_inj e')), hlook, delF_find (delF fs s) t u, if_neg e]
      have : ¬ t = u := fun e' => e e'.symm
      simp [Fl.named, this]
  · rcases List.mem_append.1 hg with hg | hg
    · have hg' := (hsub g hg).1
      exact (h.files g hg').turned ht (fun i hi e => h.own_m hg' (by rw [← e]; exact hi))
    · simp at hg
      subst hg
      have := (h.files f hm).turned ht (fun i hi e => h.own_m hm (by rw [← e]; exact hi))
      exact ⟨this.blk, this.row, this.byte, this.sure⟩
  · unfold renF
    rw [List.pairwise_append]
    refine ⟨(h.apart.filter _).filter _, by simp, fun a ha b hb => ?_⟩
    simp at hb
    subst hb
    have := apart_of h.apart hm (hsub a ha).1 (hsub a ha).2.1
    exact fun i hi hfi => this i hi hfi
  · unfold renF
    rw [List.pairwise_append]
    refine ⟨hdn.filter _, by simp, fun a ha b hb => ?_⟩
    simp at hb
    subst hb
    exact (hsub a ha).2.2
  · rcases List.mem_append.1 hg with hg' | hg'
    · exact h.good g (hsub g hg').1
    · simp at hg'
      subst hg'
      exact hgood
  · have := h.few
    unfold renF
    simp
    omega
  · have := h.room
    unfold renF
    rw [total_app]
    simp [total, Fl.named]
    omega
/-- What comes of a Sync. -/
theorem sync_op (h : DiskAt w p bm size calls fs D) (hc : calls ≠ 0) (s : ByteArray) (hs : s.size ≤ maxLen) :
    Calls Try.prog 15 #[.pointer (some ⟨p, 0, none⟩), .string s] w fun e w' => ∃ er, e = .returned (.int .i64 er) ∧ ((ffind fs s = none ∧ er = 4 ∧ Now w w' p bm size calls fs fs) ∨ (∃ f, ffind fs s = some f ∧ er = 0 ∧ Now w w' p bm size (counted calls) fs (setF fs f.synced))) := by
  cases hf : ffind fs s with
  | some f =>
    refine (sync_ok h hc s hs hf).mono ?_
    rintro e w' ⟨rfl, hn⟩
    exact ⟨0, rfl, .inr ⟨f, rfl, rfl, hn⟩⟩
  | none =>
    have hop := fileOp_none h hc s hs hf 44 #[]
    have HOP := hid hop
    clear hop h hf
    go_enter Try.func15, Try.ntmps15
    go_wp2_with fail
    refine HOP.out.mono ?_
    rintro e w' ⟨er, rfl, rfl, hn⟩
    have HN := hid hn
    clear hn
    go_wp2
    go_ret
    exact ⟨4, rfl, .inl ⟨trivial, rfl, HN.out⟩⟩
end
end Go.Proofs.Ytjfohnkfcfifeaa
