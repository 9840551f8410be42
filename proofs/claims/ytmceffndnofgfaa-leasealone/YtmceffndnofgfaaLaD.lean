/-
  LeaseAlone's steps, as a round of its loop meets them.
-/
import Derived.Test.YtmceffndnofgfaaLaC
namespace Go.Proofs.Ytmceffndnofgfaa
open Go.RowKit Go.Maps

/-- What a give makes of a hold. -/
def gvT21 (l : Int) (b : Int × Int) (now : Int) (s : Int × Int × Int) : Int × Int × Int := if Gives (s.1, s.2.1) b s.2.2 now then (b.1, b.2, max s.2.2 (now + l)) else s
structure ScW (W V : World) : Prop where
  out : Below W.heap.size W V
theorem ScW.start (W : World) : ScW W W := ⟨Below.refl _ _⟩
theorem ScW.dr {W V : World} (h : ScW W V) : ScW W V.drew := ⟨below_dn h.out 1⟩
theorem ScW.dn {W V : World} (h : ScW W V) (q : Nat) : ScW W (V.drewN q) := ⟨below_dn h.out q⟩
theorem ScW.alloc {W V : World} (h : ScW W V) (o : Obj) : ScW W (V.alloc o) := ⟨h.out.alloc h.out.size _⟩
theorem ScW.grown {W V U : World} (h : ScW W V) (hb : Below W.heap.size V U) : ScW W U := ⟨h.out.trans hb⟩
theorem ScW.size {W V : World} (h : ScW W V) : W.heap.size ≤ V.heap.size := h.out.size
section
variable {w wr wr' : World} {n pc gc cc p g c hb lb mb tb : Nat} {T long r : Int} {now : List Int} {time need : Int} {asks : List Int} {hp : Nat → Nat} {hs : Nat → Int × Int × Int} {lets : Nat → Bool} {v : Value} {way : List (Int × Int)}
theorem AS.form (H : AS w wr n pc gc cc p g c hb lb mb tb T long now time need asks hp hs lets v way) : ∃ ao cp, v = .slice ao way.length cp ∧ way.length ≤ cp ∧ HeldW wr ao way := heldW_of_own rfl H.row
theorem AE.of (H : AS w wr n pc gc cc p g c hb lb mb tb T long now time need asks hp hs lets v way) (hI : Inv r long n now time asks (fun k => (hs k).2.2) lets way) {ao : Option Addr} {m cp : Nat} (hv : v = .slice ao m cp) : AE w wr n pc gc cc p g c hb lb mb tb T long r ao m cp := by
  obtain ⟨ao', cp', h1, h2, h3⟩ := H.form
  rw [hv] at h1
  injection h1 with e1 e2 e3
  subst hv
  exact ⟨now, time, need, asks, hp, hs, lets, way, H, e2.symm, hI⟩
theorem AS.nowRng (H : AS w wr n pc gc cc p g c hb lb mb tb T long now time need asks hp hs lets v way) {k : Nat} (hk : k < n) (hl : now.length = n) : 0 ≤ now.getD k 0 ∧ now.getD k 0 ≤ 1152921504606846976 := H.clk.rng _ (getD_mem (by omega))
theorem AS.nowC (H : AS w wr n pc gc cc p g c hb lb mb tb T long now time need asks hp hs lets v way) {k : Nat} (hk : k < n) (hl : now.length = n) (q : Nat) : Calls Try.prog 29 #[.pointer (some ⟨pc, 0, none⟩), .int .i64 (k : Int)] (wr.drewN q) fun e w' => e = .returned (.int .i64 (now.getD k 0)) ∧ w' = wr.drewN q := by
  refine (now_any (H.drewN q).clk (k : Int)).mono ?_
  rintro e w' ⟨he, hw⟩
  refine ⟨?_, hw⟩
  rw [he]
  unfold nowOf
  rw [if_pos (by omega), Int.toNat_natCast]
theorem AS.nowC0 (H : AS w wr n pc gc cc p g c hb lb mb tb T long now time need asks hp hs lets v way) {k : Nat} (hk : k < n) (hl : now.length = n) : Calls Try.prog 29 #[.pointer (some ⟨pc, 0, none⟩), .int .i64 (k : Int)] wr fun e w' => e = .returned (.int .i64 (now.getD k 0)) ∧ w' = wr := by
  refine (now_any H.clk (k : Int)).mono ?_
  rintro e w' ⟨he, hw⟩
  refine ⟨?_, hw⟩
  rw [he]
  unfold nowOf
  rw [if_pos (by omega), Int.toNat_natCast]
theorem AS.ptr (H : AS w wr n pc gc cc p g c hb lb mb tb T long now time need asks hp hs lets v way) {k : Nat} (hk : k < n) : wr.cell? ⟨hb, k, none⟩ = some (.pointer (some ⟨hp k, 0, none⟩)) ∧ wr.frozen? ⟨hb, k, none⟩ = false := ⟨H.hbk.cell (rowF_get (fun i => ptrV (hp i)) hk), H.hbk.frozen k⟩
theorem AS.letC (H : AS w wr n pc gc cc p g c hb lb mb tb T long now time need asks hp hs lets v way) {k : Nat} (hk : k < n) : wr.cell? ⟨lb, k, none⟩ = some (.bool (lets k)) ∧ wr.frozen? ⟨lb, k, none⟩ = false := ⟨H.lbk.cell (rowF_get (fun i => Value.bool (lets i)) hk), H.lbk.frozen k⟩
theorem inv_ext {us us' : Nat → Int} (h : Inv r long n now time asks us lets way) (he : ∀ k, us k = us' k) : Inv r long n now time asks us' lets way := by
  have : us = us' := funext he
  rwa [this] at h
theorem setN_us (hs : Nat → Int × Int × Int) (i : Nat) (s : Int × Int × Int) (k : Nat) : setN (fun k => (hs k).2.2) i s.2.2 k = (setN hs i s k).2.2 := by
  unfold setN
  split <;> rfl
theorem setN_twice {α : Type} (f : Nat → α) (i : Nat) (a b : α) : setN (setN f i a) i b = setN f i b := by
  funext k
  unfold setN
  split <;> rfl
/-- The node's answer to an ask: it gives, or not. -/
theorem AS.give {i : Nat} (hi : i < n) (H : AS w wr n pc gc cc p g c hb lb mb tb T long now time need asks hp hs lets v way) (x : Int) : Calls Try.prog 17 #[.pointer (some ⟨hp i, 0, none⟩), .agg #[.int .i64 5, .int .i64 0], .int .i64 x] wr fun e w' => e = .returned (.bool (decide (Gives ((hs i).1, (hs i).2.1) (5, 0) (hs i).2.2 x))) ∧ AS w w' n pc gc cc p g c hb lb mb tb T long now time need asks hp (setN hs i (gvT21 long (5, 0) x (hs i))) lets v way := by
  unfold gvT21
  by_cases hg : Gives ((hs i).1, (hs i).2.1) (5, 0) (hs i).2.2 x
  · rw [decide_eq_true hg, if_pos hg]
    refine (GiveHd_yes (H.hd i hi) 5 0 x hg).mono ?_
    rintro e w' ⟨he, h1, h2⟩
    exact ⟨he, H.turnHd hi (s' := (5, 0, max (hs i).2.2 (x + long))) h1 (by simp) h2⟩
  · rw [decide_eq_false hg, if_neg hg]
    refine (GiveHd_no (H.hd i hi) 5 0 x hg).mono ?_
    rintro e w' ⟨he, h1⟩
    have e1 : setN hs i (hs i) = hs := by
      funext k
      unfold setN
      split
      · next h => rw [h]
      · rfl
    rw [e1]
    exact ⟨he, H.grow h1⟩
theorem AS.restart {i : Nat} (hi : i < n) (H : AS w wr n pc gc cc p g c hb lb mb tb T long now time need asks hp hs lets v way) {x : Int} (hx : 0 ≤ x ∧ x ≤ 1152921504606846976) : Calls Try.prog 21 #[.pointer (some ⟨hp i, 0, none⟩), .int .i64 x] wr fun e w' => e = .returned (.tuple #[]) ∧ AS w w' n pc gc cc p g c hb lb mb tb T long now time need asks hp (setN hs i (0, 0, max (hs i).2.2 (x + long))) lets v way := by
  refine (restartHd_yes (H.hd i hi) x hx).mono ?_
  rintro e w' ⟨he, h1, h2⟩
  exact ⟨he, H.turnHd hi (s' := (0, 0, max (hs i).2.2 (x + long))) h1 (by simp) h2⟩
theorem AS.blocks {i : Nat} (hi : i < n) (H : AS w wr n pc gc cc p g c hb lb mb tb T long now time need asks hp hs lets v way) (x : Int) : Calls Try.prog 19 #[.pointer (some ⟨hp i, 0, none⟩), .agg #[.int .i64 6, .int .i64 1], .int .i64 x] wr fun e w' => e = .returned (.bool (decide (x < (hs i).2.2))) ∧ AS w w' n pc gc cc p g c hb lb mb tb T long now time need asks hp hs lets v way := by
  refine (blocksHd_any (H.hd i hi) 6 1 x).mono ?_
  rintro e w' ⟨he, h1⟩
  refine ⟨?_, H.grow h1⟩
  rw [he]
  have : decide (Blocked ((hs i).1, (hs i).2.1) (6, 1) (hs i).2.2 x) = decide (x < (hs i).2.2) := by
    rw [decide_eq_decide]
    exact ⟨fun h => h.1, fun h => ⟨h, fun e => H.own i hi e.symm⟩⟩
  rw [this]
theorem AS.grantC (H : AS w wr n pc gc cc p g c hb lb mb tb T long now time need asks hp hs lets v way) (node asked : Int) : Calls Try.prog 12 #[.pointer (some ⟨p, 0, none⟩), .int .i64 node, .int .i64 asked] wr fun e w' => e = .returned (.tuple #[]) ∧ AS w w' n pc gc cc p g c hb lb mb tb T long now time need (grantL asks node asked) hp hs lets v way :=
  (grantLe_any H.ls node asked).mono fun _ _ ⟨he, h1, h2⟩ => ⟨he, H.turnLs h1 h2⟩
end
theorem own_mono {w : World} {B B' e size n : Nat} {v : Value} {xs : List Value} (h : w.ownsRow B e size v n xs) (hB : B' ≤ B) : w.ownsRow B' e size v n xs := by
  refine ⟨h.1, ?_⟩
  rcases h.2 with h0 | ⟨g, cap, cur, h1, hbg, r⟩
  · exact .inl h0
  · exact .inr ⟨g, cap, cur, h1, Nat.le_trans hB hbg, r⟩
/-- append([]sent{}, x...) in a region that draws its order. -/
theorem step_copy_sent {ops : Array Oper} {o : Oper} {a : Act} {w : World} {K : Act → World → Prop} {Q : Exit → Act → World → Prop} {E : Prop} (hgd : o.guard = none) (s x : Operand)
    (ho : o.op = .call { callee := .builtin .append, args := #[s, x], argTypes := #[62, 62] })
    (base g : Nat) (hs : a.eval s = .slice (some ⟨g, 0, none⟩) 0 0) (hown : w.ownsRow base 70 2 (.slice (some ⟨g, 0, none⟩) 0 0) 0 (flatW []))
    (ao : Option Addr) (m c : Nat) (xs : List (Int × Int)) (hx : a.eval x = .slice ao m c) (hm : xs.length = m) (hh : HeldW w ao xs) (hsum : m ≤ 100000) (hbase : base ≤ w.heap.size)
    (h : ∀ bo cp w', w'.ownsRow base 70 2 (.slice bo m cp) m (flatW xs) → Below base w w' → K (a.put o.dst (.slice bo m cp)) w') :
    if Region.wanted o (yielded ops a.tmps) = true then Oper.wp Try.prog o a w K Q else E := by
  refine step_append_sent hgd s x ho base _ 0 [] hs hown rfl ao m c xs hx hm hh (by omega) hbase ?_
  intro bo cp w' h1 h2 _ _
  rw [Nat.zero_add] at h1 ⊢
  exact h bo cp w' h1 h2
/-- What is on its way, cell by cell. -/
theorem AS.wayC {w wr : World} {n pc gc cc p g c hb lb mb tb : Nat} {T long : Int} {now : List Int} {time need : Int} {asks : List Int} {hp : Nat → Nat} {hs : Nat → Int × Int × Int} {lets : Nat → Bool} {ao : Option Addr} {m cp : Nat} {way : List (Int × Int)}
    (H : AS w wr n pc gc cc p g c hb lb mb tb T long now time need asks hp hs lets (.slice ao m cp) way) {k : Nat} (hk : k < way.length) : ∃ gq, ao = some ⟨gq, 0, none⟩ ∧ wr.cell? ⟨gq, k * 2, none⟩ = some (.int .i64 (way[k]'hk).1) ∧ wr.cell? ⟨gq, k * 2 + 1, none⟩ = some (.int .i64 (way[k]'hk).2) ∧ HeldW wr (some ⟨gq, 0, none⟩) way ∧ way.length ≤ cp := by
  have hf := flatW_get hk
  rcases H.row.2 with ⟨_, h0⟩ | ⟨gq, cap', cur, h0, hbg, hg, hnc, _⟩
  · omega
  · injection h0 with q1 q2 q3
    subst q1 q3
    have hc : ∀ j u, (flatW way)[j]? = some u → wr.cell? ⟨gq, j, none⟩ = some u := fun j u hu => by
      have := H.row.cells (g := gq) rfl j u hu
      simpa [Addr.add_lit] using this
    refine ⟨gq, rfl, hc _ _ hf.1, hc _ _ hf.2, .inr ⟨gq, 0, rfl, (Array.getElem?_eq_some_iff.1 hg).1, fun j u hu => ?_⟩, hnc⟩
    rw [Nat.zero_add]
    exact hc j u hu
theorem wrapK {k : Nat} (h : k ≤ 5000) : IntKind.i64.wrap ((k : Int) + 1) = (k : Int) + 1 := by
  rw [IntKind.wrap_i64]
  omega
/-- The node gave: what stands when the grant is noted. -/
def GR (w wr : World) (n pc gc cc p g c hb lb mb tb : Nat) (T long r : Int) (ao : Option Addr) (m cp : Nat) (j k : Nat) : Prop :=
  ∃ now time need asks hp hs lets way, AS w wr n pc gc cc p g c hb lb mb tb T long now time need asks hp hs lets (.slice ao m cp) way ∧ way.length = m ∧ ∃ hk : k < way.length, Inv r long n now time (grantL asks j (way[k]'hk).2) (fun k => (hs k).2.2) lets way
end Go.Proofs.Ytmceffndnofgfaa
