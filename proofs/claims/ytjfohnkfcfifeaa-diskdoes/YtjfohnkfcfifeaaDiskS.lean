/-
  Package disk: a file goes: Remove at any input.
-/
import Derived.Test.YtjfohnkfcfifeaaDiskG
namespace Go.Proofs.Ytjfohnkfcfifeaa
open Go.RowKit Go.Maps

/-- The files but the one of that name. -/
def delF (fs : List Fl) (s : ByteArray) : List Fl := fs.filter (fun f => !decide (f.name = s))
theorem mem_delF {fs : List Fl} {s : ByteArray} {f : Fl} (h : f ∈ delF fs s) : f ∈ fs ∧ f.name ≠ s := by
  unfold delF at h
  simpa using h
theorem delF_find (fs : List Fl) (s t : ByteArray) : ffind (delF fs s) t = if t = s then none else ffind fs t := by
  unfold ffind delF
  rw [List.find?_filter]
  by_cases e : t = s
  · subst e
    rw [if_pos rfl, List.find?_eq_none]
    intro f _
    simp
  · rw [if_neg e]
    congr 1
    funext f
    by_cases h : f.name = t
    · simp [h, e]
    · simp [h]
theorem delF_none {fs : List Fl} {s : ByteArray} (h : ffind fs s = none) : delF fs s = fs := by
  unfold delF
  rw [List.filter_eq_self]
  intro f hf
  have : f.name ≠ s := fun e => by
    have := List.find?_eq_none.1 h f hf
    simp [e] at this
  simpa using this
theorem delF_len : ∀ {fs : List Fl} (_ : fs.Pairwise (fun f g => f.name ≠ g.name)) {s : ByteArray} {f : Fl} (_ : ffind fs s = some f), (delF fs s).length + 1 = fs.length ∧ total (delF fs s) + f.bytes.length = total fs
  | g :: r, hn, s, f, hf => by
    obtain ⟨h1, h2⟩ := List.pairwise_cons.1 hn
    by_cases e : g.name = s
    · have hg : g = f := by
        unfold ffind at hf
        rw [List.find?_cons_of_pos (by simpa using e)] at hf
        exact Option.some.inj hf
      have hr : delF (g :: r) s = r := by
        unfold delF
        rw [List.filter_cons_of_neg (by simp [e]), List.filter_eq_self]
        intro x hx
        have := h1 x hx
        rw [e] at this
        simpa using fun h => this h.symm
      subst hg
      rw [hr, total]
      exact ⟨by simp, by omega⟩
    · have hf' : ffind r s = some f := by
        unfold ffind at hf ⊢
        rwa [List.find?_cons_of_neg (by simpa using e)] at hf
      obtain ⟨i1, i2⟩ := delF_len h2 hf'
      have hr : delF (g :: r) s = g :: delF r s := by
        unfold delF
        rw [List.filter_cons_of_pos (by simpa using e)]
      rw [hr, total, total, List.length_cons, List.length_cons]
      omega
theorem ownsMap_tight {w : World} {P : Program} {k : TypeId} {b n : Nat} {D : DataW Value} (h : w.ownsMap P k valR b n D) {m : Nat} (hm : Maps.size D = m) : w.ownsMap P k valR b m D := by
  obtain ⟨es, clock, hb, F, hs, rfl⟩ := h
  refine ⟨es, clock, hb, F, ?_, rfl⟩
  simp [Maps.size, length_sorted] at hm
  omega

theorem cell_mapped {w w' : World} {b : Nat} {ad : Addr} {v : Value} (h : w.cell? ad = some v) (hm : w.mapTurned w' b) : w'.cell? ad = some v := by
  obtain ⟨es, clock, es', clock', hb, _⟩ := id hm
  have hlt := World.block_lt_of_cell? w _ h
  have hne : some ad.block ≠ some b := by
    intro e
    have e1 : ad.block = b := by simpa using e
    rw [World.cell?, e1, hb] at h
    cases h
  rw [World.cell?_of_block (hm.grown.block _ hlt hne)]
  exact h

section
variable {w w' : World} {p bm : Nat} {size calls : Int} {fs : List Fl} {D : DataW Value}
theorem DiskAt.delF (h : DiskAt w p bm size calls fs D) {s : ByteArray} {f : Fl} (hf : ffind fs s = some f) (hm : w.mapTurned w' bm) (hown : w'.ownsMap Try.prog 9 valR bm fs.length (D.del (key s))) :
    DiskAt w' p bm size calls (delF fs s) (D.del (key s)) := by
  have ht : Turns (fun i => i = bm) w w' := Turns.of_grown hm.grown (fun k hk => by cases hk; rfl)
  obtain ⟨hl, htot⟩ := delF_len h.names hf
  have hsz : Maps.size (D.del (key s)) = (Go.Proofs.Ytjfohnkfcfifeaa.delF fs s).length := by
    have hhas : Maps.has D (key s) = true := by rw [has_look (allHeld_of h.map), h.look, hf]; rfl
    have := size_del (k := key s) (h.map.tidy Try.keyedStr)
    rw [hhas, h.cnt] at this
    simp at this
    omega
  refine ⟨ht.blk h.blk h.p_m, ownsMap_tight hown hsz, hsz, fun t => ?_, fun g hg => ?_, h.apart.filter _, h.names.filter _, fun g hg => h.good g (mem_delF hg).1, ?_, ?_, h.big, h.calls⟩
  · rw [delF_find]
    by_cases e : t = s
    · subst e
      rw [if_pos rfl, look_del_same]
      rfl
    · rw [if_neg e, look_del_other (fun e' => e (key_inj e')), h.look]
  · have hg' := (mem_delF hg).1
    exact (h.files g hg').turned ht (fun i hi e => h.own_m hg' (by rw [← e]; exact hi))
  · have := h.few
    omega
  · have := h.room
    omega
theorem Now.gone (h : DiskAt w p bm size calls fs D) {s : ByteArray} {f : Fl} (hf : ffind fs s = some f) (hm : w.mapTurned w' bm) (hown : w'.ownsMap Try.prog 9 valR bm fs.length (D.del (key s))) :
    Now w w' p bm size calls fs (delF fs s) := by
  refine ⟨_, h.delF hf hm hown, (Turns.of_grown (F := fun i => i = bm) hm.grown (fun k hk => by cases hk; rfl)).mono (fun i hi => .inr (.inl hi)), ?_⟩
  rintro i (e | e | ⟨g, hg, hi⟩)
  · exact .inl (.inl e)
  · exact .inl (.inr (.inl e))
  · exact .inl (.inr (.inr ⟨g, (mem_delF hg).1, hi⟩))

set_option maxRecDepth 100000 in
theorem remove1 (h : DiskAt w p bm size calls fs D) (s : ByteArray) (hs : s.size ≤ maxLen) {f : Fl} (hf : ffind fs s = some f) (a b : Nat) (ha : w.cell? ⟨a, 0, none⟩ = some (.pointer (some ⟨p, 0, none⟩))) (hb : w.cell? ⟨b, 0, none⟩ = some (.string s)) :
    Calls Try.prog 24 #[.pointer (some ⟨f.ptr, 0, none⟩), .pointer (some ⟨a, 0, none⟩), .pointer (some ⟨b, 0, none⟩)] w fun e w' => e = .returned (.int .i64 0) ∧ Now w w' p bm size calls fs (delF fs s) := by
  have hc1 := h.blk.cell (i := 1) rfl
  obtain ⟨w2, hrun, hown, hmt⟩ := h.drew.map.drop Try.keyedStr Try.underlying49 (Try.keyStr hs) 0
  have HO := hid hown
  have HM := hid hmt
  have HH := hid h
  have HF := hid hf
  have ha' : w.drew.cell? ⟨a, 0, none⟩ = some (.pointer (some ⟨p, 0, none⟩)) := ha
  have hb' : w.drew.cell? ⟨b, 0, none⟩ = some (.string s) := hb
  have hc' : w.drew.cell? ⟨p, 1, none⟩ = some (.map (some bm)) := hc1
  have ha2 := cell_mapped ha' hmt
  have hb2 := cell_mapped hb' hmt
  have hc2 := cell_mapped hc' hmt
  clear h hf hown hmt
  go_enter Try.func24, Try.ntmps24
  go_wp2
  go_region_held3 (fun V => V.cell? ⟨a, 0, none⟩ = some (.pointer (some ⟨p, 0, none⟩)) ∧ V.cell? ⟨b, 0, none⟩ = some (.string s) ∧ V.cell? ⟨p, 1, none⟩ = some (.map (some bm))) (first | (refine ⟨?_, ?_, ?_⟩ <;> assumption) | go_keep) (fail)
  go_wp2
  go_ret
  exact ⟨rfl, (Now.gone HH.out.drew HF.out HM.out HO.out).ahead (drew_below w)⟩

/-- What comes of a Remove. -/
def Removed (w w' : World) (p bm : Nat) (size calls : Int) (fs : List Fl) (s : ByteArray) (er : Int) : Prop :=
  (ffind fs s = none ∧ er = 4 ∧ Now w w' p bm size calls fs fs) ∨ (∃ f, ffind fs s = some f ∧ er = 0 ∧ Now w w' p bm size (counted calls) fs (delF fs s))
theorem remove_do (w : World) (p : Nat) (s : ByteArray) (R : Int → World → Prop)
    (hch : Calls Try.prog 23 #[.pointer (some ⟨p, 0, none⟩), .string s, .func (.func 24) #[] #[.pointer (some ⟨w.heap.size, 0, none⟩), .pointer (some ⟨w.heap.size + 1, 0, none⟩)]] ((w.alloc (.cells #[.pointer (some ⟨p, 0, none⟩)] 23)).alloc (.cells #[.string s] 9)) fun e w' => ∃ er, e = .returned (.int .i64 er) ∧ R er w') :
    Calls Try.prog 10 #[.pointer (some ⟨p, 0, none⟩), .string s] w fun e w' => ∃ er, e = .returned (.int .i64 er) ∧ R er w' := by
  have HCH := hid hch
  clear hch
  go_enter Try.func10, Try.ntmps10
  go_wp2_with fail
  refine HCH.out.mono ?_
  rintro e w1 ⟨er, rfl, hR⟩
  have HR := hid hR
  clear hR
  go_wp2
  go_ret
  exact ⟨er, rfl, HR.out⟩
theorem remove_op (h : DiskAt w p bm size calls fs D) (hc : calls ≠ 0) (s : ByteArray) (hs : s.size ≤ maxLen) :
    Calls Try.prog 10 #[.pointer (some ⟨p, 0, none⟩), .string s] w fun e w' => ∃ er, e = .returned (.int .i64 er) ∧ Removed w w' p bm size calls fs s er := by
  refine remove_do w p s _ ?_
  have hb : Below w.heap.size w ((w.alloc (.cells #[.pointer (some ⟨p, 0, none⟩)] 23)).alloc (.cells #[.string s] 9)) := ((Below.refl _ w).alloc (Nat.le_refl _) _).alloc (by simp) _
  have b0 : Blk ((w.alloc (.cells #[.pointer (some ⟨p, 0, none⟩)] 23)).alloc (.cells #[.string s] 9)) w.heap.size 23 [.pointer (some ⟨p, 0, none⟩)] := (Blk.new w 23 [.pointer (some ⟨p, 0, none⟩)]).alloc _
  have b1 : Blk ((w.alloc (.cells #[.pointer (some ⟨p, 0, none⟩)] 23)).alloc (.cells #[.string s] 9)) (w.heap.size + 1) 9 [.string s] := by
    have := Blk.new (w.alloc (.cells #[.pointer (some ⟨p, 0, none⟩)] 23)) 9 [.string s]
    rw [World.size_alloc] at this
    exact this
  generalize (w.alloc (.cells #[.pointer (some ⟨p, 0, none⟩)] 23)).alloc (.cells #[.string s] 9) = W at *
  have hW := h.below hb (Nat.le_refl _)
  cases hf : ffind fs s with
  | none =>
    refine (fileOp_none hW hc s hs hf _ _).mono ?_
    rintro e w' ⟨er, rfl, rfl, hn⟩
    exact ⟨4, rfl, .inl ⟨hf, rfl, hn.ahead hb⟩⟩
  | some f =>
    refine (fileOp_do hW hc s hs hf 24 #[.pointer (some ⟨w.heap.size, 0, none⟩), .pointer (some ⟨w.heap.size + 1, 0, none⟩)] (.inr (.inr ⟨rfl, _, _, rfl⟩)) (fun er fs' => er = 0 ∧ fs' = Go.Proofs.Ytjfohnkfcfifeaa.delF fs s) (fun V DV hV hbV => ?_)).mono ?_
    · refine (remove1 hV s hs hf w.heap.size (w.heap.size + 1) ((b0.below hbV b0.lt).cell (i := 0) rfl) ((b1.below hbV b1.lt).cell (i := 0) rfl)).mono ?_
      rintro e w' ⟨rfl, hn⟩
      exact ⟨0, _, rfl, ⟨rfl, rfl⟩, hn⟩
    · rintro e w' ⟨er, rfl, fs', ⟨rfl, rfl⟩, hn⟩
      rw [if_pos rfl] at hn
      exact ⟨0, rfl, .inr ⟨f, hf, rfl, hn.ahead hb⟩⟩
end
end Go.Proofs.Ytjfohnkfcfifeaa
/-
  Package disk: a file that gets another name; Sync at any input.
-/
namespace Go.Proofs.Ytjfohnkfcfifeaa
open Go.RowKit Go.Maps

def Fl.named (f : Fl) (t : ByteArray) : Fl := { f with name := t }
/-- The files behind a Rename of f. -/
def renF (fs : List Fl) (f : Fl) (s t : ByteArray) : List Fl := delF (delF fs s) t ++ [f.named t]
theorem apart_of {fs : List Fl} (hp : fs.Pairwise (fun f g => ∀ i, f.Foot i → ¬ g.Foot i)) {f g : Fl} (hf : f ∈ fs) (hg : g ∈ fs) (hne : g ≠ f) : ∀ i, g.Foot i → ¬ f.Foot i := by
  intro i hi hfi
  obtain ⟨a, ha, rfl⟩ := List.mem_iff_getElem.1 hg
  obtain ⟨b, hb, rfl⟩ := List.mem_iff_getElem.1 hf
  rcases Nat.lt_trichotomy a b with hab | hab | hab
  · exact List.pairwise_iff_getElem.1 hp a b ha hb hab i hi hfi
  · subst hab
    exact hne rfl
  · exact List.pairwise_iff_getElem.1 hp b a hb ha hab i hfi hi
theorem total_app : ∀ (fs gs : List Fl), total (fs ++ gs) = total fs + total gs
  | [], gs => by simp [total]
  | f :: r, gs => by rw [List.cons_append, total, total, total_app r gs]; omega

section
variable {w w' : World} {p bm : Nat} {size calls : Int} {fs : List Fl} {D : DataW Value}
theorem diskAt_ren (h : DiskAt w p bm size calls fs D) {s t : ByteArray} {f : Fl} (hf : ffind fs s = some f) (hgood : nameS t = true) (ht : Turns (fun i => i = bm) w w') {n : Nat} (hown : w'.ownsMap Try.prog 9 valR bm n ((D.del (key s)).put (key t) (.held f.at))) (hdel : Tidy (D.del (key s))) (hall : AllHeld (D.del (key s))) (him : IsMap (D.del (key s))) :
    DiskAt w' p bm size calls (renF fs f s t) ((D.del (key s)).put (key t) (.held f.at)) := by
  obtain ⟨hm, hnm⟩ := ffind_mem hf
  have hkl : WideAt.IsKeyLit (key t) := by simp [key, WideAt.IsKeyLit]
  obtain ⟨hl, htot⟩ := delF_len h.names hf
  have hdn : (delF fs s).Pairwise (fun f g => f.name ≠ g.name) := h.names.filter _
  have hlook : ∀ u, look (D.del (key s)) (key u) = (ffind (delF fs s) u).map Fl.at := fun u => by
    rw [delF_find]
    by_cases e : u = s
    · subst e
      rw [if_pos rfl, look_del_same]
      rfl
    · rw [if_neg e, look_del_other (fun e' => e (key_inj e')), h.look]
  have hsz : Maps.size (D.del (key s)) = (delF fs s).length := by
    have hhas : Maps.has D (key s) = true := by rw [has_look (allHeld_of h.map), h.look, hf]; rfl
    have := size_del (k := key s) (h.map.tidy Try.keyedStr)
    rw [hhas, h.cnt] at this
    simp at this
    omega
  have hcnt : Maps.size ((D.del (key s)).put (key t) (.held f.at)) = (renF fs f s t).length := by
    rw [size_put hdel, has_look hall, hlook, hsz]
    unfold renF
    cases hx : ffind (delF fs s) t with
    | none =>
      rw [delF_none hx]
      simp
    | some g =>
      have := (delF_len hdn hx).1
      simp
      omega
  have hsub : ∀ g ∈ delF (delF fs s) t, g ∈ fs ∧ g ≠ f ∧ g.name ≠ t := fun g hg => by
    obtain ⟨h1, h2⟩ := mem_delF hg
    obtain ⟨h3, h4⟩ := mem_delF h1
    exact ⟨h3, fun e => h4 (by rw [e, hnm]), h2⟩
  have hle : (delF (delF fs s) t).length + 1 ≤ fs.length ∧ total (delF (delF fs s) t) + f.bytes.length ≤ total fs := by
    cases hx : ffind (delF fs s) t with
    | none =>
      rw [delF_none hx]
      omega
    | some g =>
      have := delF_len hdn hx
      omega
  refine ⟨ht.blk h.blk h.p_m, ownsMap_tight hown hcnt, hcnt, fun u => ?_, fun g hg => ?_, ?_, ?_, fun g hg => ?_, ?_, ?_, h.big, h.calls⟩
  · unfold renF ffind
    rw [List.find?_append]
    change _ = Option.map Fl.at ((ffind (delF (delF fs s) t) u).or _)
    by_cases e : u = t
    · subst e
      rw [look_put_same him hkl, delF_find, if_pos rfl]
      simp [Fl.named, Fl.at]
    · rw [look_put_other (fun e' => e (key_inj e')), hlook, delF_find (delF fs s) t u, if_neg e]
      have : ¬ t = u := fun e' => e e'.symm
      simp [Fl.named, this]
  · rcases List.mem_append.1 hg with hg | hg
    · have hg' := (hsub g hg).1
      exact (h.files g hg').turned ht (fun i hi e => h.own_m hg' (by rw [← e]; exact hi))
    · simp at hg
      subst hg
      have := (h.files f hm).turned ht (fun i hi e => h.own_m hm (by rw [← e]; exact hi))
      exact ⟨this.blk, this.row, this.byte, this.sure⟩
  · unfold renF
    rw [List.pairwise_append]
    refine ⟨(h.apart.filter _).filter _, by simp, fun a ha b hb => ?_⟩
    simp at hb
    subst hb
    have := apart_of h.apart hm (hsub a ha).1 (hsub a ha).2.1
    exact fun i hi hfi => this i hi hfi
  · unfold renF
    rw [List.pairwise_append]
    refine ⟨hdn.filter _, by simp, fun a ha b hb => ?_⟩
    simp at hb
    subst hb
    exact (hsub a ha).2.2
  · rcases List.mem_append.1 hg with hg' | hg'
    · exact h.good g (hsub g hg').1
    · simp at hg'
      subst hg'
      exact hgood
  · have := h.few
    unfold renF
    simp
    omega
  · have := h.room
    unfold renF
    rw [total_app]
    simp [total, Fl.named]
    omega
/-- What comes of a Sync. -/
theorem sync_op (h : DiskAt w p bm size calls fs D) (hc : calls ≠ 0) (s : ByteArray) (hs : s.size ≤ maxLen) :
    Calls Try.prog 15 #[.pointer (some ⟨p, 0, none⟩), .string s] w fun e w' => ∃ er, e = .returned (.int .i64 er) ∧ ((ffind fs s = none ∧ er = 4 ∧ Now w w' p bm size calls fs fs) ∨ (∃ f, ffind fs s = some f ∧ er = 0 ∧ Now w w' p bm size (counted calls) fs (setF fs f.synced))) := by
  cases hf : ffind fs s with
  | some f =>
    refine (sync_ok h hc s hs hf).mono ?_
    rintro e w' ⟨rfl, hn⟩
    exact ⟨0, rfl, .inr ⟨f, rfl, rfl, hn⟩⟩
  | none =>
    have hop := fileOp_none h hc s hs hf 44 #[]
    have HOP := hid hop
    clear hop h hf
    go_enter Try.func15, Try.ntmps15
    go_wp2_with fail
    refine HOP.out.mono ?_
    rintro e w' ⟨er, rfl, rfl, hn⟩
    have HN := hid hn
    clear hn
    go_wp2
    go_ret
    exact ⟨4, rfl, .inl ⟨trivial, rfl, HN.out⟩⟩
end
end Go.Proofs.Ytjfohnkfcfifeaa
