/-
  Asks on their way: appended, cut; a Tick of what LeaseAlone has; what stands between two rounds ('AE').
-/
import Derived.Test.YtmceffndnofgfaaLaA
import Derived.Deep.RegionHeld3
import Derived.Deep.RegionLaw
namespace Go.Proofs.Ytmceffndnofgfaa
open Go.RowKit Go.Maps

/-- A slice of asks holds xs. -/
def HeldW (w : World) (ao : Option Addr) (xs : List (Int × Int)) : Prop :=
  xs = [] ∨ ∃ b off, ao = some ⟨b, off, none⟩ ∧ b < w.heap.size ∧ ∀ j u, (flatW xs)[j]? = some u → w.cell? ⟨b, off + j, none⟩ = some u
theorem HeldW.below {w w' : World} {ao : Option Addr} {xs : List (Int × Int)} (h : HeldW w ao xs) (hb : Below w.heap.size w w') : HeldW w' ao xs := by
  rcases h with h0 | ⟨b, off, h1, h2, h3⟩
  · exact .inl h0
  · exact .inr ⟨b, off, h1, Nat.lt_of_lt_of_le h2 hb.size, fun j u hu => (hb.cell (p := ⟨b, off + j, none⟩) h2).trans (h3 j u hu)⟩
theorem HeldW.grown {w w' : World} {b off : Nat} {xs : List (Int × Int)} {row : Option Nat} (h : HeldW w (some ⟨b, off, none⟩) xs) (hg : w.grownBy w' row) (hne : some b ≠ row) : HeldW w' (some ⟨b, off, none⟩) xs := by
  rcases h with h0 | ⟨b', off', e, h2, h3⟩
  · exact .inl h0
  · cases e
    exact .inr ⟨b, off, rfl, Nat.lt_of_lt_of_le h2 hg.size, fun j u hu => hg.cell (h3 j u hu) (by simpa using hne)⟩
theorem HeldW.take {w : World} {ao : Option Addr} {xs : List (Int × Int)} (h : HeldW w ao xs) (k : Nat) : HeldW w ao (xs.take k) := by
  rcases h with h0 | ⟨b, off, h1, h2, h3⟩
  · left; simp [h0]
  · refine .inr ⟨b, off, h1, h2, fun j u hu => h3 j u ?_⟩
    have e : flatW xs = flatW (xs.take k) ++ flatW (xs.drop k) := by rw [← flatW_app, List.take_append_drop]
    rw [e, List.getElem?_append_left (List.getElem?_eq_some_iff.1 hu).1]
    exact hu
theorem HeldW.drop {w : World} {b off : Nat} {xs : List (Int × Int)} (h : HeldW w (some ⟨b, off, none⟩) xs) (k : Nat) (hk : k ≤ xs.length) : HeldW w (some ⟨b, off + k * 2, none⟩) (xs.drop k) := by
  rcases h with h0 | ⟨b', off', e, h2, h3⟩
  · left; simp [h0]
  · cases e
    refine .inr ⟨b, off + k * 2, rfl, h2, fun j u hu => ?_⟩
    have e : flatW xs = flatW (xs.take k) ++ flatW (xs.drop k) := by rw [← flatW_app, List.take_append_drop]
    have hl : (flatW (xs.take k)).length = k * 2 := by rw [flatW_len, List.length_take, Nat.min_eq_left hk]
    have := h3 (k * 2 + j) u (by rw [e, List.getElem?_append_right (by omega), hl, Nat.add_sub_cancel_left]; exact hu)
    rwa [← Nat.add_assoc] at this
theorem HeldW.news {w : World} {ad : Addr} {xs : List (Int × Int)} (h : HeldW w (some ad) xs) : ∀ j u, (flatW xs)[j]? = some u → w.cell? (ad.add j) = some u := by
  intro j u hu
  rcases h with h0 | ⟨b, off, e, _, h3⟩
  · subst h0
    simp [flatW] at hu
  · cases e
    rw [Addr.add_lit]
    exact h3 j u hu
theorem Try.infoSent : (Try.prog.info? 70).map (fun i => (i.zero, i.size, i.bytes)) = some (some (.agg #[.int .i64 0, .int .i64 0]), 2, 16) := by kernel_rfl
theorem heldW_of_own {w : World} {B n : Nat} {v : Value} {xs : List (Int × Int)} (hn : xs.length = n) (h : w.ownsRow B 70 2 v n (flatW xs)) : ∃ ao cap, v = .slice ao n cap ∧ n ≤ cap ∧ HeldW w ao xs := by
  rcases h.2 with ⟨rfl, rfl⟩ | ⟨g, cap, cur, rfl, hbg, hg, hnc, _⟩
  · exact ⟨none, 0, rfl, Nat.le_refl _, .inl (List.eq_nil_of_length_eq_zero hn)⟩
  · refine ⟨some ⟨g, 0, none⟩, cap, rfl, hnc, .inr ⟨g, 0, rfl, (Array.getElem?_eq_some_iff.1 hg).1, fun j u hu => ?_⟩⟩
    have := h.cells (g := g) rfl j u hu
    simpa [Addr.add_lit] using this
/-- append of asks to a row of the call's own, in a region that draws its order. -/
theorem step_append_sent {ops : Array Oper} {o : Oper} {a : Act} {w : World} {K : Act → World → Prop} {Q : Exit → Act → World → Prop} {E : Prop} (hgd : o.guard = none) (s x : Operand)
    (ho : o.op = .call { callee := .builtin .append, args := #[s, x], argTypes := #[62, 62] })
    (base : Nat) (v : Value) (n : Nat) (ds : List (Int × Int)) (hs : a.eval s = v) (hown : w.ownsRow base 70 2 v n (flatW ds)) (hn : ds.length = n)
    (ao : Option Addr) (m c : Nat) (xs : List (Int × Int)) (hx : a.eval x = .slice ao m c) (hm : xs.length = m) (hh : HeldW w ao xs) (hsum : n + m ≤ 100000) (hbase : base ≤ w.heap.size)
    (h : ∀ bo cp w', w'.ownsRow base 70 2 (.slice bo (n + m) cp) (n + m) (flatW (ds ++ xs)) → Below base w w' → w.grownBy w' v.ownBlock → ((Value.slice bo (n + m) cp).ownBlock = v.ownBlock ∨ (Value.slice bo (n + m) cp).ownBlock = some w.heap.size) → K (a.put o.dst (.slice bo (n + m) cp)) w') :
    if Region.wanted o (yielded ops a.tmps) = true then Oper.wp Try.prog o a w K Q else E := by
  have hw : Region.wanted o (yielded ops a.tmps) = true := by simp [Region.wanted, hgd]
  rw [if_pos hw]
  obtain ⟨iI, hj, hy0, hy1, hy2⟩ := info_parts Try.infoSent
  cases ao with
  | none =>
    have hx0 : xs = [] := by
      rcases hh with h0 | ⟨b, off, e, _⟩
      · exact h0
      · cases e
    subst hx0
    obtain rfl : 0 = m := hm
    have hr := run_append_noneI (P := Try.prog) w base 62 o.type 70 iI 2 Try.underlying62 hj v n c _ hown
    rw [List.append_nil] at h
    simp only [Nat.add_zero] at h
    obtain ⟨eo, cap, hv, _, hhE⟩ := heldW_of_own hn hown
    unfold Oper.wp execOp
    simp only [ho, resolve, invoke, builtin, Sem.run_bind, Sem.run_pure, Result.andThen_ok, List.map_toArray, List.map_cons, List.map_nil, hs, hx, hr]
    have := h eo cap w (by rw [← hv]; exact hown) (Below.refl _ _) (World.grownBy.refl _ _) (by rw [← hv]; exact .inl rfl)
    rw [← hv] at this
    exact this
  | some ad =>
    obtain ⟨v', w', hr, hown', hgrow, _, hob⟩ := run_append_own_at (P := Try.prog) w base 62 o.type 70 iI _ 2 16 Try.underlying62 hj hy0 hy1 hy2 rfl (by decide) v n (flatW ds) hown ad m c (flatW xs) (by rw [flatW_len, hm]) hh.news (flatW_one xs) (by unfold maxLen; omega) (by omega) hbase
    unfold Oper.wp execOp
    simp only [ho, resolve, invoke, builtin, Sem.run_bind, Sem.run_pure, Result.andThen_ok, List.map_toArray, List.map_cons, List.map_nil, hs, hx, hr]
    rw [← flatW_app] at hown'
    have hb : Below base w w' := (Below.refl _ _).grown hgrow hbase (fun k hk => (hown.lt k hk).1)
    obtain ⟨bo, cp, rfl, _, hhE⟩ := heldW_of_own (by rw [List.length_append, hn, hm]) hown'
    exact h bo cp w' hown' hb hgrow hob
theorem wpList_append_sent {ops : Array Oper} {rest : List Oper} {o : Oper} {a : Act} {w : World} {Q : Exit → Act → World → Prop} (hgd : o.guard = none) (s x : Operand)
    (ho : o.op = .call { callee := .builtin .append, args := #[s, x], argTypes := #[62, 62] })
    (base : Nat) (v : Value) (n : Nat) (ds : List (Int × Int)) (hs : a.eval s = v) (hown : w.ownsRow base 70 2 v n (flatW ds)) (hn : ds.length = n)
    (ao : Option Addr) (m c : Nat) (xs : List (Int × Int)) (hx : a.eval x = .slice ao m c) (hm : xs.length = m) (hh : HeldW w ao xs) (hsum : n + m ≤ 100000) (hbase : base ≤ w.heap.size)
    (h : ∀ bo cp w', w'.ownsRow base 70 2 (.slice bo (n + m) cp) (n + m) (flatW (ds ++ xs)) → Below base w w' → w.grownBy w' v.ownBlock → wpList Try.prog ops Q rest (a.put o.dst (.slice bo (n + m) cp)) w') :
    wpList Try.prog ops Q (o :: rest) a w := by
  refine wpList_plain hgd fun K hK => ?_
  have := step_append_sent (ops := #[]) (K := K) (Q := Q) (E := False) hgd s x ho base v n ds hs hown hn ao m c xs hx hm hh hsum hbase (fun bo cp w' h1 h2 h3 _ => hK _ _ (h bo cp w' h1 h2 h3))
  rw [if_pos (by simp [Region.wanted, hgd])] at this
  exact this
theorem ownW_made (w : World) (B : Nat) (hB : B ≤ w.heap.size) : (w.alloc (.cells #[] 70)).ownsRow B 70 2 (.slice (some ⟨w.heap.size, 0, none⟩) 0 0) 0 (flatW []) :=
  ⟨rfl, .inr ⟨w.heap.size, 0, #[], rfl, hB, World.alloc_heap_new w _, Nat.le_refl _, Nat.zero_le _, rfl, rfl⟩⟩
theorem addr_add0 (p : Addr) : p.add 0 = p := by
  obtain ⟨b, o, s⟩ := p
  cases s <;> simp [Addr.add]
theorem sizeSent (W : World) : (Go.sizeOf 70).run Try.prog W = .ok 2 W := by
  obtain ⟨i, hi, _, hs, _⟩ := info_parts Try.infoSent
  simp [Go.sizeOf, typeInfo, hi, hs]
theorem run_sent_to (W : World) (a : Option Addr) (len cap n : Nat) (hh : n ≤ cap) : (Instr.slice 62 (.slice a len cap) none (some (.int .i64 (n : Int))) none).run Try.prog W = .ok (.slice a n cap) W := by
  have ht' : Try.prog.underlying 62 = some (.slice (Try.prog.elem 62)) := by simp [Program.elem, Try.underlying62]
  have he : Try.prog.elem 62 = 70 := by simp [Program.elem, Try.underlying62]
  rw [run_slice_h W 62 _ _ _ ht' .i64 _ (by omega) (by omega), he, sizeSent]
  cases a <;> simp [Result.andThen, sliced, addr_add0]
/-- Where a slice of asks from the place k on lies. -/
def fromW (b cap k : Nat) : Option Addr := if cap = k then some ⟨b, 0, none⟩ else some ⟨b, k * 2, none⟩
theorem run_sent_from (W : World) (b len cap k : Nat) (i : Int) (hi : i = (k : Int)) (hh : k ≤ len) : (Instr.slice 62 (.slice (some ⟨b, 0, none⟩) len cap) (some (.int .i64 i)) none none).run Try.prog W = .ok (.slice (fromW b cap k) (len - k) (cap - k)) W := by
  subst hi
  have ht' : Try.prog.underlying 62 = some (.slice (Try.prog.elem 62)) := by simp [Program.elem, Try.underlying62]
  have he : Try.prog.elem 62 = 70 := by simp [Program.elem, Try.underlying62]
  rw [run_slice_l W 62 _ _ _ ht' .i64 _ (by omega) (by omega), he, sizeSent]
  unfold fromW
  by_cases h : cap = k
  · simp [Result.andThen, sliced, h]
  · simp [Result.andThen, sliced, h, Addr.add_lit]
theorem HeldW.from' {w : World} {b cap k : Nat} {xs : List (Int × Int)} (h : HeldW w (some ⟨b, 0, none⟩) xs) (hk : k ≤ xs.length) (hc : xs.length ≤ cap) : HeldW w (fromW b cap k) (xs.drop k) := by
  unfold fromW
  split
  · next he => left; rw [List.drop_eq_nil_iff]; omega
  · have := h.drop k hk
    rwa [Nat.zero_add] at this

/-- What stands between two rounds: the asks on their way lie at ao. -/
def AE (w wr : World) (n pc gc cc p g c hb lb mb tb : Nat) (T long r : Int) (ao : Option Addr) (m cp : Nat) : Prop :=
  ∃ now time need asks hp hs lets way, AS w wr n pc gc cc p g c hb lb mb tb T long now time need asks hp hs lets (.slice ao m cp) way ∧ way.length = m ∧ Inv r long n now time asks (fun k => (hs k).2.2) lets way
section
variable {w wr wr' : World} {n pc gc cc p g c hb lb mb tb : Nat} {T long r : Int} {ao : Option Addr} {m cp : Nat}
theorem AE.drewN (H : AE w wr n pc gc cc p g c hb lb mb tb T long r ao m cp) (q : Nat) : AE w (wr.drewN q) n pc gc cc p g c hb lb mb tb T long r ao m cp := by
  obtain ⟨now, time, need, asks, hp, hs, lets, way, h1, h2, h3⟩ := H
  exact ⟨now, time, need, asks, hp, hs, lets, way, h1.drewN q, h2, h3⟩
theorem AE.bel (H : AE w wr n pc gc cc p g c hb lb mb tb T long r ao m cp) : Below w.heap.size w wr := by
  obtain ⟨now, time, need, asks, hp, hs, lets, way, h1, h2, h3⟩ := H
  exact h1.bel
theorem AE.tick (H : AE w wr n pc gc cc p g c hb lb mb tb T long r ao m cp) (hn : 0 < n) {t : Int} {on : List Int} (hk : KeepsAll t on r) (oo : Option Addr) (oc : Nat) (ho : HeldInt wr oo on) (hl : on.length ≤ 140737488355328) (hap : ∀ b off, oo = some ⟨b, off, none⟩ → on ≠ [] → b < w.heap.size) :
    Calls Try.prog 28 #[.pointer (some ⟨pc, 0, none⟩), .int .i64 t, .slice oo on.length oc] wr fun e w' => ∃ z : Int, e = .returned (.int .i64 z) ∧ AE w w' n pc gc cc p g c hb lb mb tb T long r ao m cp := by
  obtain ⟨now, time, need, asks, hp, hs, lets, way, h1, h2, h3⟩ := H
  obtain ⟨_, hx, _, _⟩ := keepsAll_iff.1 hk
  have hap' : ∀ b off, oo = some ⟨b, off, none⟩ → on ≠ [] → ¬ CFoot pc gc b := fun b off e he hf => by
    have a1 := hap b off e he
    have a2 := h1.far
    rcases hf with e1 | e1 <;> omega
  by_cases hm : (Right t ∧ ∀ x ∈ on, Right x) ∧ on.length = now.length
  · by_cases hr : Room now time t on
    · refine (tick_good h1.clk t oo oc on ho hap' hm.1 hm.2 hr).mono ?_
      rintro e w' ⟨rfl, h', ht⟩
      exact ⟨0, rfl, _, _, _, asks, hp, hs, lets, way, h1.turnClk h' ht, h2, h3.tick hn hk (by rw [hm.2, h3.len])⟩
    · refine (tick_full h1.clk t oo oc on ho hm.1 hm.2 hr).mono ?_
      rintro e w' ⟨rfl, rfl⟩
      exact ⟨2, rfl, now, time, need, asks, hp, hs, lets, way, h1, h2, h3⟩
  · refine (tick_bad h1.clk t oo oc on ho hl hm).mono ?_
    rintro e w' ⟨rfl, rfl⟩
    exact ⟨1, rfl, now, time, need, asks, hp, hs, lets, way, h1, h2, h3⟩
end
end Go.Proofs.Ytmceffndnofgfaa
