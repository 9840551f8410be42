/-
  Package acceptor: votesFrom, Votes.
-/
import Derived.Test.YthcpopigkbefhaaGreatAcG
namespace Go.Proofs.YthcpopigkbefhaaGreat
open Go.RowKit Go.Maps

/-- Five cells of a block, from the fourth on, stored anew. -/
def st5v (w : World) (p : Nat) (v0 v1 v2 v3 v4 : Value) : World :=
  ((((w.setCell ⟨p, 3, none⟩ v0).setCell ⟨p, 4, none⟩ v1).setCell ⟨p, 5, none⟩ v2).setCell ⟨p, 6, none⟩ v3).setCell ⟨p, 7, none⟩ v4
theorem st5v_blk {w : World} {p : Nat} {t : TypeId} {a0 a1 a2 a3 a4 a5 a6 a7 : Value} (h : Blk w p t [a0, a1, a2, a3, a4, a5, a6, a7]) (v0 v1 v2 v3 v4 : Value) : Blk (st5v w p v0 v1 v2 v3 v4) p t [a0, a1, a2, v0, v1, v2, v3, v4] :=
  ((((h.set 3 v0).set 4 v1).set 5 v2).set 6 v3).set 7 v4
theorem turns_ownV {w V : World} {b i : Nat} {v : Value} (h : Turns (fun k => k = b) w V) : Turns (fun k => k = b) w (V.setCell ⟨b, i, none⟩ v) := h.setCell (p := ⟨b, i, none⟩) (.inl rfl) v
theorem st5v_turns (w : World) (p : Nat) (v0 v1 v2 v3 v4 : Value) : Turns (fun i => i = p) w (st5v w p v0 v1 v2 v3 v4) :=
  turns_ownV (turns_ownV (turns_ownV (turns_ownV (turns_ownV (Turns.refl _ _)))))
def dfVt : Vt := ((0, 0), noopEn)
/-- The votes among the first k slots, from a slot on. -/
def fromTo (a : Ac) (s : Int) (k : Nat) : List (Int × Vt) := ((a.ks.take k).filter (fun t => decide (s ≤ t))).map (fun t => (t, (a.f t).getD dfVt))
def VoM.sv (x : VoM) : Int × Vt := (x.slot, x.vt)
theorem fromTo_zero (a : Ac) (s : Int) : fromTo a s 0 = [] := rfl
theorem fromTo_no {a : Ac} {s : Int} {k : Nat} (hk : k < a.ks.length) (h : ¬ s ≤ a.ks.getD k 0) : fromTo a s (k + 1) = fromTo a s k := by
  have e : a.ks.getD k 0 = a.ks[k] := by simp [List.getD, List.getElem?_eq_getElem hk]
  rw [e] at h
  unfold fromTo
  rw [List.take_succ_eq_append_getElem hk, List.filter_append]
  simp [h]
theorem fromTo_yes {a : Ac} {s : Int} {k : Nat} (hk : k < a.ks.length) (h : s ≤ a.ks.getD k 0) : fromTo a s (k + 1) = fromTo a s k ++ [(a.ks.getD k 0, (a.f (a.ks.getD k 0)).getD dfVt)] := by
  have e : a.ks.getD k 0 = a.ks[k] := by simp [List.getD, List.getElem?_eq_getElem hk]
  rw [e] at h ⊢
  unfold fromTo
  rw [List.take_succ_eq_append_getElem hk, List.filter_append]
  simp [h]
theorem fromTo_len (a : Ac) (s : Int) (k : Nat) : (fromTo a s k).length ≤ a.ks.length := by
  unfold fromTo
  rw [List.length_map]
  exact Nat.le_trans (List.length_filter_le _ _) (by rw [List.length_take]; exact Nat.min_le_right _ _)
/-- A slice of votes whose cuts lie in blocks of numbers. -/
structure HeldVI (w : World) (ao : Option Addr) (ys : List VoM) : Prop where
  held : HeldVo w ao ys
  num : ∀ y ∈ ys, ∀ b off, y.en.ao = some ⟨b, off, none⟩ → ∃ cs, Blk w b 3 cs
theorem HeldVI.turned {F : Nat → Prop} {w w' : World} {ao : Option Addr} {ys : List VoM} (h : HeldVI w ao ys) (ht : Turns F w w') (hn : NoNum w F) (hb : ∀ b off, ao = some ⟨b, off, none⟩ → ¬ F b) : HeldVI w' ao ys := by
  have hoff : ∀ y ∈ ys, ∀ b off, y.en.ao = some ⟨b, off, none⟩ → ¬ F b := fun y hy b off e hf => by
    obtain ⟨cs, hc⟩ := h.num y hy b off e
    exact hn b hf cs hc
  refine ⟨⟨fun y hy => ?_, ?_⟩, fun y hy b off e => ?_⟩
  · have h1 := h.held.1 y hy
    exact ⟨⟨⟨h1.en.cut.held.turned ht (fun b off e _ => hoff y hy b off e), h1.en.cut.room, h1.en.cut.few⟩, h1.en.ie, h1.en.ht, h1.en.hc⟩, h1.is, h1.i1, h1.i2⟩
  · rcases h.held.2 with h0 | ⟨b, off, h1, h2, h3⟩
    · exact .inl h0
    · refine .inr ⟨b, off, h1, Nat.lt_of_lt_of_le h2 ht.size, fun j hj c u hu => ?_⟩
      have e : w'.cell? ⟨b, off + j * 8 + c, none⟩ = w.cell? ⟨b, off + j * 8 + c, none⟩ := by simp [World.cell?, ht.block b h2 (hb b off h1)]
      rw [e]
      exact h3 j hj c u hu
  · obtain ⟨cs, hc⟩ := h.num y hy b off e
    exact ⟨cs, ht.blk hc (hoff y hy b off e)⟩
theorem HeldVI.below {w w' : World} {ao : Option Addr} {ys : List VoM} (h : HeldVI w ao ys) (hb : Below w.heap.size w w') : HeldVI w' ao ys := h.turned (F := fun _ => False) (Turns.of_below hb (Nat.le_refl _)) (noNum_none w) (fun _ _ _ h => h)
/-- What votesFrom answers. -/
def FromP (w : World) (l : List (Int × Vt)) (e : Ending) (w' : World) : Prop := ∃ ao cap ys, e = .returned (.slice ao ys.length cap) ∧ ys.map VoM.sv = l ∧ HeldVI w' ao ys ∧ ys.length ≤ 4096 ∧ (∀ b off, ao = some ⟨b, off, none⟩ → w.heap.size ≤ b) ∧ Below w.heap.size w w'
/-- Between two rounds. -/
def Voting (w : World) (a : Ac) (s : Int) (kv : Value) (k : Nat) (v : Value) (wr : World) : Prop :=
  ∃ ys : List VoM, ys.map VoM.sv = fromTo a s k ∧ AllVo wr ys ∧ (∀ y ∈ ys, ∀ b off, y.en.ao = some ⟨b, off, none⟩ → ∃ cs, Blk wr b 3 cs) ∧ wr.ownsRow w.heap.size 58 8 v ys.length (flatVo ys) ∧ wr.ownsRow w.heap.size 3 1 kv a.ks.length (ints a.ks) ∧ Below w.heap.size w wr
theorem rightBal_i64 {b : Int × Int} (h : RightBal b = true) : I64 b.1 ∧ I64 b.2 := by
  unfold RightBal at h
  simp only [Bool.and_eq_true, decide_eq_true_eq] at h
  unfold I64
  omega
/-- append(out, v), the element's block in whatever spelling. -/
theorem wpList_append_voG {ops : Array Oper} {rest : List Oper} {o : Oper} {a : Act} {Q : Exit → Act → World → Prop} (W0 W : World) (x : VoM) (hW : W = W0.alloc (.cells x.cells.toArray 58)) (hgd : o.guard = none) (s xx : Operand)
    (ho : o.op = .call { callee := .builtin .append, args := #[s, xx], argTypes := #[35, 35] }) (B : Nat) (v : Value) (ds : List VoM) (n : Nat) (hn : ds.length = n) (g : Nat)
    (hs : a.eval s = v) (hx : a.eval xx = .slice (some ⟨g, 0, none⟩) 1 1) (hg : g = W0.heap.size) (hown : W0.ownsRow B 58 8 v n (flatVo ds)) (hB : B ≤ W0.heap.size) (hl : n < 1466015503701)
    (h : ∀ v' w', w'.ownsRow B 58 8 v' (n + 1) (flatVo (ds ++ [x])) → Below B W0 w' → W.grownBy w' v.ownBlock → wpList Tryz.prog ops Q rest (a.put o.dst v') w') :
    wpList Tryz.prog ops Q (o :: rest) a W := by
  subst hg
  exact wpList_append_vo W0 W x hW hgd s xx ho B v ds n hn hs hx hown hB hl h
theorem blk_neH {w : World} {b c : Nat} {t u : TypeId} {xs ys : List Value} (h : Blk w b t xs) (k : Blk w c u ys) (hne : t ≠ u) : b ≠ c := by
  rintro rfl
  have h1 : w.heap[b]? = some (.cells xs.toArray t) := h
  have h2 : w.heap[b]? = some (.cells ys.toArray u) := k
  rw [h1] at h2
  injection h2 with h2
  injection h2 with _ h2
  exact hne h2
set_option maxRecDepth 100000 in
set_option maxHeartbeats 2000000 in
theorem AcAt.votesFrom {w : World} {p m : Nat} {a : Ac} (h : AcAt w p m a) (s : Int) : Calls Tryz.prog 16 #[.pointer (some ⟨p, 0, none⟩), .int .i64 s] w (FromP w (fromTo a s a.ks.length)) := by
  have H := hid h
  have HKE := hid (keysA m w)
  have HSO := hid h.sortedKeys
  have c3 := h.cells.2.2.2
  obtain ⟨N, HN⟩ : ∃ N, Hid (a.ks.length = N) := ⟨_, hid rfl⟩
  have hN : N ≤ 4096 := by rw [← HN.out]; exact h.ok.few
  have HW1 : Hid (Below w.heap.size w (w.alloc (.cells #[.map (some m)] 46))) := (Below.refl _ _).alloc (Nat.le_refl _) _
  clear h
  go_enter Tryz.func16, Tryz.ntmps16
  go_wp2_with fail
  refine HKE.out.mono ?_
  rintro e w1 ⟨rfl, rfl⟩
  go_wp2_with fail
  refine HSO.out.mono ?_
  rintro e w2 ⟨kv, rfl, hrow, hb2⟩
  obtain ⟨ko, kc, hkv⟩ := own_sliceC hrow
  subst hkv
  rw [HN.out]
  have HV0 : Hid (Voting w a s (.slice ko a.ks.length kc) 0 (.slice none 0 0) w2) := ⟨[], rfl, fun y hy => (by cases hy), fun y hy => (by cases hy), World.ownsRow_nil _ _ _ _, hrow, hb2⟩
  rw [HN.out] at HV0
  clear hrow hb2 c3
  go_wp2
  go_loopw [5, 7, 8, 16] (fun v _ _ i wr => ∃ k : Nat, k ≤ N ∧ i = .int .i64 k ∧ Hid (Voting w a s (.slice ko N kc) k v wr)) (fun _ _ _ i _ => N - (intOf i).toNat)
  case atStart => exact ⟨0, Nat.zero_le _, rfl, HV0⟩
  case round =>
    obtain ⟨k, hk, rfl, HR⟩ := hrel
    obtain ⟨ys, hys, hall, hint, hrow, hkrow, hbr⟩ := HR.out
    have HYS := hid hys
    have HALL := hid hall
    have HINT := hid hint
    have HROW := hid hrow
    have HKR := hid hkrow
    have HBR := hid hbr
    have HYL : Hid (ys.length ≤ 4096) := by
      show _ ≤ _
      have h1 := congrArg List.length hys
      rw [List.length_map] at h1
      have := fromTo_len a s k
      rw [HN.out] at this
      omega
    clear hys hall hint hrow hkrow hbr HR
    by_cases hlt : k < N
    · have hlt' : (k : Int) < (N : Int) := by omega
      have HLT := hid hlt
      have hkx : Hid (k < a.ks.length) := (HN.out ▸ hlt : k < a.ks.length)
      obtain ⟨kg, kcap, krest, hkv, hkb, hkw⟩ := own_blk HKR.out (by rw [HN.out]; omega)
      rw [HN.out] at hkv
      cases hkv
      obtain ⟨at', HAT⟩ : ∃ t, Hid (a.ks.getD k 0 = t) := ⟨_, hid rfl⟩
      have e1 : wr.cell? ⟨kg, k, none⟩ = some (.int .i64 at') := by
        rw [← HAT.out]
        exact hkb.cell (by rw [List.getElem?_append_left (by rw [ints_len]; exact hkx.out)]; exact ints_get hkx.out)
      have HKB := hid hkb
      have hmem : at' ∈ a.ks := by rw [← HAT.out]; exact getD_mem hkx.out
      have HSLT := hid (H.out.ok.slot at' hmem)
      have hrng : -9223372036854775808 ≤ at' ∧ at' ≤ 9223372036854775807 := by have := HSLT.out; omega
      have HMEM := hid hmem
      clear hkb hkw hmem hk hlt
      by_cases hs : at' < s
      · have hs' : decide (at' < s) = true := decide_eq_true hs
        have HNX : Hid (fromTo a s (k + 1) = fromTo a s k) := fromTo_no hkx.out (by rw [HAT.out]; omega)
        clear hs
        go_wp2
        go_roundw
        case rel => exact ⟨k + 1, HLT.out, by go_num, ys, by rw [HNX.out]; exact HYS.out, HALL.out, HINT.out, HROW.out, HKR.out, HBR.out⟩
        case measure => have := HLT.out; simp [intOf]; omega
      · have hs' : decide (at' < s) = false := decide_eq_false hs
        have HNX0 : Hid (fromTo a s (k + 1) = fromTo a s k ++ [(at', (a.f at').getD dfVt)]) := by have := fromTo_yes hkx.out (s := s) (by rw [HAT.out]; omega); rw [HAT.out] at this; exact this
        have HAr := hid (H.out.below HBR.out)
        obtain ⟨S, D, hEM, hSf⟩ := HAr.out.map
        have hsome : (S at').isSome = true := by rw [isSome_of hSf]; exact (H.out.ok.has at').1 HMEM.out
        obtain ⟨y, hy⟩ := Option.isSome_iff_exists.1 hsome
        have hlk := hEM.look1 (s := at') (by unfold I64; omega)
        rw [hy] at hlk
        simp only [Option.map_some, Option.getD_some] at hlk
        have HKY := hid (hEM.ok at' y hy).1
        have HYS2 := hid (hEM.ok at' y hy).2
        have HFY : Hid (a.f at' = some y.vt) := by show _ = _; rw [← hSf at', hy]; rfl
        have HRV := hid (H.out.ok.right at' y.vt HFY.out)
        have c3 := HAr.out.cells.2.2.2
        clear hs hEM hSf hsome hy
        obtain ⟨sl, ⟨br, bn⟩, ⟨np, tk, ct, ep, dp⟩, ao1, cap1⟩ := y
        obtain rfl : sl = at' := HYS2.out
        obtain ⟨XN, HXN⟩ : ∃ m, Hid (dp.length = m) := ⟨_, hid rfl⟩
        simp only [VoM.val] at hlk
        rw [HXN.out] at hlk
        obtain ⟨W1, hW1⟩ : ∃ V, V = wr.alloc (.cells #[.int .i64 sl, .int .i64 br, .int .i64 bn, .bool np, .string tk, .string ct, .int .i64 ep, .slice ao1 XN cap1] 58) := ⟨_, rfl⟩
        have hb1 : Below wr.heap.size wr W1 := by rw [hW1]; exact (Below.refl _ _).alloc (Nat.le_refl _) _
        have HK1 : Hid (Blk W1 wr.heap.size 58 [.int .i64 sl, .int .i64 br, .int .i64 bn, .bool np, .string tk, .string ct, .int .i64 ep, .slice ao1 XN cap1]) := by rw [hW1]; exact Blk.new wr _ _
        have HTD := hid (toldAc W1 ⟨⟨np, tk, ct, ep, dp⟩, ao1, cap1⟩ (HKY.out.below hb1).ok)
        simp only [EnM.val] at HTD
        rw [HXN.out] at HTD
        have HB1 := hid hb1
        have HW1' := hid hW1
        clear hW1 hb1
        go_wp2_with fail
        rw [← HW1'.out]
        refine HTD.out.mono ?_
        rintro e w5 ⟨bo, cp, rfl, hyv, hyb, hb5⟩
        simp only [EnM.val]
        rw [HXN.out]
        have hk5 := HK1.out.below hb5 HK1.out.lt
        have HB15 := hid (bt' HB1.out hb5)
        obtain ⟨bx, hbx⟩ : ∃ q, q = wr.heap.size := ⟨_, rfl⟩
        rw [← hbx] at hk5 ⊢
        have t0 := hk5.cell (i := 0) rfl
        have t1 := hk5.cell (i := 1) rfl
        have t2 := hk5.cell (i := 2) rfl
        have t3 := hk5.cell (i := 3) rfl
        have t4 := hk5.cell (i := 4) rfl
        have t5 := hk5.cell (i := 5) rfl
        have t6 := hk5.cell (i := 6) rfl
        have t7 := hk5.cell (i := 7) rfl
        have f3 := hk5.frozen 3
        have f4 := hk5.frozen 4
        have f5 := hk5.frozen 5
        have f6 := hk5.frozen 6
        have f7 := hk5.frozen 7
        obtain ⟨W3, hW3⟩ : ∃ V, V = st5v w5 bx (.bool np) (.string tk) (.string ct) (.int .i64 ep) (.slice bo XN cp) := ⟨_, rfl⟩
        have hk3 : Blk W3 bx 58 [.int .i64 sl, .int .i64 br, .int .i64 bn, .bool np, .string tk, .string ct, .int .i64 ep, .slice bo XN cp] := by rw [hW3]; exact st5v_blk hk5 _ _ _ _ _
        have hT3 : Turns (fun i => i = bx) w5 W3 := by rw [hW3]; exact st5v_turns _ _ _ _ _ _ _
        have HT3 : Hid (Turns (fun _ => False) wr W3) := (Turns.of_below (F := fun _ => False) HB15.out (Nat.le_refl _)).trans hT3 (fun i hi => .inr (by rw [hi, hbx]; exact Nat.le_refl _))
        have HBW3 : Hid (Below wr.heap.size wr W3) := HT3.out.below (fun _ h => h.elim) (Nat.le_refl _)
        have HYV : Hid (EnKeep W3 ⟨⟨np, tk, ct, ep, dp⟩, bo, cp⟩) := (EnKeep.mk (x := ⟨⟨np, tk, ct, ep, dp⟩, bo, cp⟩) ⟨hyv, HKY.out.ok.ie, HKY.out.ok.ht, HKY.out.ok.hc⟩ (fun b off e _ => (hyb b off e).2)).turned (noNum_blk hk5 (by decide)) hT3
        have HYI : Hid (∀ b off, bo = some ⟨b, off, none⟩ → ∃ cs, Blk W3 b 3 cs) := fun b off e => by
          obtain ⟨_, cs, hc⟩ := hyb b off e
          exact ⟨cs, hT3.blk hc (blk_neH hc hk5 (by decide))⟩
        have k0 := hk3.cell (i := 0) rfl
        have k1 := hk3.cell (i := 1) rfl
        have k2 := hk3.cell (i := 2) rfl
        have k3 := hk3.cell (i := 3) rfl
        have k4 := hk3.cell (i := 4) rfl
        have k5 := hk3.cell (i := 5) rfl
        have k6 := hk3.cell (i := 6) rfl
        have k7 := hk3.cell (i := 7) rfl
        have HROW3 := hid (HT3.out.row HROW.out (fun _ _ h => h))
        have HKR3 := hid (HT3.out.row HKR.out (fun _ _ h => h))
        have HBF3 := hid (bt' HBR.out HBW3.out)
        have HK3 := hid hk3
        have HFEW : Hid (ys.length < 1466015503701) := by show _ < _; have := HYL.out; omega
        have HKB3 := hid (HKB.out.below HBW3.out HKB.out.lt)
        have HSZ : Hid (w5.heap.size = W3.heap.size) := by show _ = _; rw [hW3]; simp [st5v]
        unfold st5v at hW3
        have HW3 := hid hW3
        clear hW3
        clear hk5 hyv hyb hb5 hT3 hk3 hbx hlk c3
        go_wp2_with (at_builtin; refine wpList_append_voG W3 _ ⟨sl, (br, bn), ⟨⟨np, tk, ct, ep, dp⟩, bo, cp⟩⟩ (by simp only [VoM.cells]; rw [HXN.out, HW3.out]) rfl _ _ rfl w.heap.size _ ys ys.length rfl _ rfl rfl HSZ.out HROW3.out HBF3.out.size HFEW.out ?_; intro v' w7 hown hbel hgrow; have HO7 := hid hown; have HG7 := hid hgrow; have HB7 := hid (HBF3.out.trans hbel); clear hown hbel hgrow)
        have HNXT : Hid (Voting w a s (.slice (some ⟨kg, 0, none⟩) N kc) (k + 1) v' w7) := by
          have hg := HG7.out
          rw [← HW3.out] at hg
          have hT7 : Turns (fun i => u5.ownBlock = some i) W3 w7 := ((Turns.refl _ W3).alloc _).grown hg (fun k hk => .inl hk)
          have hoff : ∀ b cs, Blk W3 b 3 cs → ¬ u5.ownBlock = some b := fun b cs hb e => hb.not_row (by decide) HROW3.out e.symm
          have hin3 : ∀ y ∈ ys, ∀ b off, y.en.ao = some ⟨b, off, none⟩ → ∃ cs, Blk W3 b 3 cs := fun y hy b off e => by
            obtain ⟨cs, hc⟩ := HINT.out y hy b off e
            exact ⟨cs, hc.below HBW3.out hc.lt⟩
          refine ⟨ys ++ [⟨sl, (br, bn), ⟨⟨np, tk, ct, ep, dp⟩, bo, cp⟩⟩], ?_, ?_, ?_, ?_, ?_, HB7.out⟩
          · rw [List.map_append, HYS.out, HNX0.out, HFY.out]
            rfl
          · intro y hy
            rcases List.mem_append.1 hy with hy | hy
            · have h1 := (HALL.out y hy).below HBW3.out
              refine ⟨⟨⟨h1.en.cut.held.turned hT7 (fun b off e _ hF => ?_), h1.en.cut.room, h1.en.cut.few⟩, h1.en.ie, h1.en.ht, h1.en.hc⟩, h1.is, h1.i1, h1.i2⟩
              obtain ⟨cs, hc⟩ := hin3 y hy b off e
              exact hoff b cs hc hF
            · simp only [List.mem_singleton] at hy
              subst hy
              have h1 := HYV.out.ok
              refine ⟨⟨⟨h1.cut.held.turned hT7 (fun b off e _ hF => ?_), h1.cut.room, h1.cut.few⟩, h1.ie, h1.ht, h1.hc⟩, ?_, (rightBal_i64 HRV.out.2.1).1, (rightBal_i64 HRV.out.2.1).2⟩
              · obtain ⟨cs, hc⟩ := HYI.out b off e
                exact hoff b cs hc hF
              · show I64 sl
                have := HSLT.out
                unfold I64
                omega
          · intro y hy b off e
            rcases List.mem_append.1 hy with hy | hy
            · obtain ⟨cs, hc⟩ := hin3 y hy b off e
              exact ⟨cs, hT7.blk hc (hoff b cs hc)⟩
            · simp only [List.mem_singleton] at hy
              subst hy
              obtain ⟨cs, hc⟩ := HYI.out b off e
              exact ⟨cs, hT7.blk hc (hoff b cs hc)⟩
          · rw [List.length_append]
            exact HO7.out
          · refine hT7.row HKR3.out (fun g hg hF => ?_)
            have : g = kg := by simpa [Value.ownBlock] using hg.symm
            subst this
            exact hoff _ _ HKB3.out hF
        exact ⟨⟨k + 1, HLT.out, by go_num, HNXT⟩, by have := HLT.out; simp [intOf]; omega⟩
    · obtain rfl : k = N := by omega
      have hlt' : ¬ (k : Int) < (k : Int) := by omega
      obtain ⟨ao, cap, hv, hnc, hheld⟩ := heldVo_of_own rfl HROW.out HALL.out
      have hlt2 := HROW.out.lt
      subst hv
      have HFI : Hid (FromP w (fromTo a s a.ks.length) (.returned (.slice ao ys.length cap)) wr) := ⟨ao, cap, ys, rfl, by rw [HN.out]; exact HYS.out, ⟨hheld, HINT.out⟩, HYL.out, fun b off e => (hlt2 b (by rw [e]; rfl)).1, HBR.out⟩
      clear hheld hlt hlt2 hnc
      go_wp2
      go_ret
      exact HFI.out
theorem AcAt.votes {w : World} {p m : Nat} {a : Ac} (h : AcAt w p m a) : Calls Tryz.prog 10 #[.pointer (some ⟨p, 0, none⟩)] w (FromP w (fromTo a 0 a.ks.length)) := by
  have HCL := hid h.closed
  have HV := hid (h.votesFrom 0)
  clear h
  go_enter Tryz.func10, Tryz.ntmps10
  go_wp2_with fail
  refine HCL.out.mono ?_
  rintro e w1 ⟨rfl, rfl⟩
  go_wp2_with fail
  refine HV.out.mono ?_
  intro e w2 h2
  have h2' := h2
  obtain ⟨ao, cap, ys, rfl, _⟩ := h2'
  have H2 := hid h2
  clear h2
  go_wp2
  go_ret
  exact H2.out
end Go.Proofs.YthcpopigkbefhaaGreat
