/-
  pannierlaw11.CartMerges answers true for any events of bulk at most 1048576.
-/
import Derived.Test.YtdfdgijaekhioaaCartZ
import Derived.Test.YtdfdgijaekhioaaCartOrderW
namespace Go.Proofs.Ytdfdgijaekhioaa
open Go.RowKit Go.Maps

theorem linesQ_same {l l' : List Ev} (h : OneEach l) (h' : OneEach l') (hm : ∀ x, x ∈ l ↔ x ∈ l') (name : ByteArray) : linesQ name l = linesQ name l' := by
  funext s
  refine qtyOf_perm (perm_of_mem (count_nodup _ _) (count_nodup _ _) fun x => ?_)
  rw [count_mem h, count_mem h', hm]
  refine ⟨fun ⟨a, b, c⟩ => ⟨a, b, fun f hf => c f ((hm f).2 hf)⟩, fun ⟨a, b, c⟩ => ⟨a, b, fun f hf => c f ((hm f).1 hf)⟩⟩
/-- What the law has at hand. -/
structure Hand (W : World) (ao bo co lo mo : Option Addr) (xs ys zs ls ms : List EvM) : Prop where
  a : HeldE W ao xs
  b : HeldE W bo ys
  c : HeldE W co zs
  l : HeldE W lo ls
  m : HeldE W mo ms
theorem Hand.below {W V : World} {ao bo co lo mo : Option Addr} {xs ys zs ls ms : List EvM} (h : Hand W ao bo co lo mo xs ys zs ls ms) (hb : Below W.heap.size W V) : Hand V ao bo co lo mo xs ys zs ls ms :=
  ⟨h.a.below hb, h.b.below hb, h.c.below hb, h.l.below hb, h.m.below hb⟩
theorem map_len {ms ns : List EvM} (h : ms.map (·.e) = ns.map (·.e)) : ms.length = ns.length := by
  have := congrArg List.length h
  simpa using this
set_option maxRecDepth 1000000 in
set_option maxHeartbeats 8000000 in
theorem cartMerges_walk (ao : Option Addr) (ca : Nat) (xs : List EvM) (bo : Option Addr) (cb : Nat) (ys : List EvM) (co : Option Addr) (cc : Nat) (zs : List EvM) (name : ByteArray) (w : World)
    (hx : HeldE w ao xs) (hl0 : xs.length ≤ 1048576) (hd0 : ∀ x ∈ xs, x.e.deps.length ≤ 1048576) (hy : HeldE w bo ys) (hl1 : ys.length ≤ 1048576) (hd1 : ∀ x ∈ ys, x.e.deps.length ≤ 1048576) (hz : HeldE w co zs) (hl2 : zs.length ≤ 1048576) (hd2 : ∀ x ∈ zs, x.e.deps.length ≤ 1048576) (_ : name.size ≤ maxLen) :
    Calls Try.prog 4 #[.slice ao xs.length ca, .slice bo ys.length cb, .slice co zs.length cc, .string name] w fun e w' => e = .returned (.bool true) ∧ Below w.heap.size w w' := by
  obtain ⟨n, HN⟩ : ∃ n, Hid (xs.length = n) := ⟨_, hid rfl⟩
  obtain ⟨m, HM⟩ : ∃ n, Hid (ys.length = n) := ⟨_, hid rfl⟩
  obtain ⟨p, HP⟩ : ∃ n, Hid (zs.length = n) := ⟨_, hid rfl⟩
  rw [HN.out] at hl0 ⊢
  rw [HM.out] at hl1 ⊢
  rw [HP.out] at hl2 ⊢
  have HX := hid hx
  have HY := hid hy
  have HZ := hid hz
  obtain ⟨A, HA⟩ : ∃ A, Hid (xs.map (·.e) = A) := ⟨_, hid rfl⟩
  obtain ⟨B, HBB⟩ : ∃ A, Hid (ys.map (·.e) = A) := ⟨_, hid rfl⟩
  obtain ⟨C, HC⟩ : ∃ A, Hid (zs.map (·.e) = A) := ⟨_, hid rfl⟩
  obtain ⟨ls, HLS⟩ : ∃ l, Hid (xs ++ ys ++ zs = l) := ⟨_, hid rfl⟩
  have HLE : Hid (ls.map (·.e) = A ++ B ++ C) := by show _ = _; rw [← HLS.out, List.map_append, List.map_append, HA.out, HBB.out, HC.out]
  have HLL : Hid (ls.length = n + m + p) := by show _ = _; rw [← HLS.out, List.length_append, List.length_append, HN.out, HM.out, HP.out]
  have HDL : Hid (∀ e ∈ A ++ B ++ C, e.deps.length ≤ 1048576) := fun e he => by
    rcases List.mem_append.1 he with he | he
    · rcases List.mem_append.1 he with he | he
      · rw [← HA.out] at he; obtain ⟨x, h1, rfl⟩ := List.mem_map.1 he; exact hd0 x h1
      · rw [← HBB.out] at he; obtain ⟨x, h1, rfl⟩ := List.mem_map.1 he; exact hd1 x h1
    · rw [← HC.out] at he; obtain ⟨x, h1, rfl⟩ := List.mem_map.1 he; exact hd2 x h1
  have HLV := hid (lives11_any w)
  clear hx hy hz hd0 hd1 hd2
  go_enter Try.func4, Try.ntmps4
  go_wp2_with fail
  refine HLV.out.mono ?_
  rintro e w1 ⟨rfl, hb⟩
  have HB1 := hid hb
  clear hb HLV
  have HOM := hid (ownE_made w1 w1.heap.size (Nat.le_refl _))
  have HBA : Hid (Below w1.heap.size w1 (w1.alloc (.cells #[] 29))) := (Below.refl _ _).alloc (Nat.le_refl _) _
  have HXB : Hid (∀ V, Below w1.heap.size w1 V → HeldE V ao xs ∧ HeldE V bo ys ∧ HeldE V co zs) := fun V hV => ⟨(HX.out.below HB1.out).below hV, (HY.out.below HB1.out).below hV, (HZ.out.below HB1.out).below hV⟩
  have hs1 : 0 + n ≤ 100000000 := by omega
  have hs2 : n + m ≤ 100000000 := by omega
  have hs3 : n + m + p ≤ 100000000 := by omega
  have HK1 : Hid (∀ U, Below w1.heap.size w1 U → ∀ V, Below w1.heap.size U V → AllOk V ([] ++ xs)) := fun U hU V hV => (HXB.out V (hU.trans hV)).1.1
  have HK2 : Hid (∀ U, Below w1.heap.size w1 U → ∀ V, Below w1.heap.size U V → AllOk V (xs ++ ys)) := fun U hU V hV x hx => by
    rcases List.mem_append.1 hx with hx | hx
    · exact (HXB.out V (hU.trans hV)).1.1 x hx
    · exact (HXB.out V (hU.trans hV)).2.1.1 x hx
  have HK3 : Hid (∀ U, Below w1.heap.size w1 U → ∀ V, Below w1.heap.size U V → AllOk V (xs ++ ys ++ zs)) := fun U hU V hV x hx => by
    rcases List.mem_append.1 hx with hx | hx
    · exact HK2.out U hU V hV x hx
    · exact (HXB.out V (hU.trans hV)).2.2.1 x hx
  have HLY : Hid ((xs ++ ys).length = n + m) := by show _ = _; rw [List.length_append, HN.out, HM.out]
  go_wp2_with (at_builtin; first
    | (refine wpList_append_evs rfl _ _ rfl w1.heap.size _ 0 [] rfl rfl HOM.out ao n ca xs HN.out rfl (HXB.out _ HBA.out).1 hs1 HBA.out.size (HK1.out _ HBA.out) ?_
       intro b2 cp2 w2 hown2 _ hb2
       rw [Nat.zero_add, List.nil_append] at hown2
       rw [Nat.zero_add]
       have HO2 := hid hown2
       have HB2 := hid (HBA.out.trans hb2)
       clear hown2 hb2)
    | (refine wpList_append_evs rfl _ _ rfl w1.heap.size _ n xs HN.out rfl HO2.out bo m cb ys HM.out rfl (HXB.out _ HB2.out).2.1 hs2 HB2.out.size (HK2.out _ HB2.out) ?_
       intro b3 cp3 w3 hown3 _ hb3
       have HO3 := hid hown3
       have HB3 := hid (HB2.out.trans hb3)
       clear hown3 hb3)
    | (refine wpList_append_evs rfl _ _ rfl w1.heap.size _ (n + m) (xs ++ ys) HLY.out rfl HO3.out co p cc zs HP.out rfl (HXB.out _ HB3.out).2.2 hs3 HB3.out.size (HK3.out _ HB3.out) ?_
       intro lo cl w4 _ hheld4 hb4
       have HH4 := hid hheld4
       have HB4 := hid (HB3.out.trans hb4)
       clear hheld4 hb4))
  rw [HLS.out] at HH4
  have HBX := hid (bt HB1.out HB4.out)
  obtain ⟨hxa4, hxb4, hxc4⟩ := HXB.out _ HB4.out
  have HH0 : Hid (HeldE w4 ao xs ∧ HeldE w4 bo ys ∧ HeldE w4 co zs ∧ HeldE w4 lo ls) := ⟨hxa4, hxb4, hxc4, HH4.out⟩
  clear hxa4 hxb4 hxc4
  obtain ⟨q, hq⟩ : ∃ q, q = n + m + p := ⟨_, rfl⟩
  have hqs : q ≤ 4194304 := by omega
  rw [← hq] at HLL ⊢
  have HRT := hid (right_any w4 lo cl ls q HLL.out HH4.out hqs)
  clear HK1 HK2 HK3 HOM HBA HXB HLY HO2 HB2 HO3 HB3 hs1 hs2 hs3
  refine HRT.out.mono ?_
  rintro e w5 ⟨⟨r, rfl, hr⟩, hb⟩
  have HB5 := hid (bt HBX.out hb)
  have HH5 : Hid (HeldE w5 ao xs ∧ HeldE w5 bo ys ∧ HeldE w5 co zs ∧ HeldE w5 lo ls) := ⟨HH0.out.1.below hb, HH0.out.2.1.below hb, HH0.out.2.2.1.below hb, HH0.out.2.2.2.below hb⟩
  have HR := hid hr
  clear hb hr HRT
  cases r
  · go_wp2
    go_ret
    exact ⟨rfl, HB5.out⟩
  have HRL : Hid (RightL (A ++ B ++ C)) := by have := HR.out.1 rfl; rw [HLE.out] at this; exact this
  have HON : Hid (∀ l : List Ev, (∀ x ∈ l, x ∈ A ++ B ++ C) → OneEach l) := fun l hl => HRL.out.2.sub hl
  have hmA : ∀ x, x ∈ A → x ∈ A ++ B ++ C := fun x h => List.mem_append_left _ (List.mem_append_left _ h)
  have hmB : ∀ x, x ∈ B → x ∈ A ++ B ++ C := fun x h => List.mem_append_left _ (List.mem_append_right _ h)
  have hmC : ∀ x, x ∈ C → x ∈ A ++ B ++ C := fun x h => List.mem_append_right _ h
  have HMA := hid hmA
  have HMB := hid hmB
  have HMC := hid hmC
  have HOAB : Hid (OneEach (A ++ B)) := HON.out _ fun x h => (List.mem_append.1 h).elim (HMA.out x) (HMB.out x)
  have HOBA : Hid (OneEach (B ++ A)) := HON.out _ fun x h => (List.mem_append.1 h).elim (HMB.out x) (HMA.out x)
  have HOBC : Hid (OneEach (B ++ C)) := HON.out _ fun x h => (List.mem_append.1 h).elim (HMB.out x) (HMC.out x)
  clear HR hmA hmB hmC
  -- m := Merge(a, b)
  have HG1 := hid (cmerge_any w5 ao bo ca cb xs ys n m HN.out HM.out HH5.out.1 HH5.out.2.1 (by omega))
  rw [HA.out, HBB.out] at HG1
  have HAL : Hid (A.length = n) := by show _ = _; rw [← HA.out, List.length_map, HN.out]
  have HBL : Hid (B.length = m) := by show _ = _; rw [← HBB.out, List.length_map, HM.out]
  have HCL : Hid (C.length = p) := by show _ = _; rw [← HC.out, List.length_map, HP.out]
  go_wp2_with fail
  refine HG1.out.mono ?_
  rintro e w6 ⟨mo, k1, c1, ms, rfl, hl1', hf1, hh1, hm1, hb⟩
  have hk1 : k1 ≤ n + m := by rw [List.length_append, HAL.out, HBL.out] at hf1; exact hf1
  have HML := hid hl1'
  have HM1 := hid hm1
  have HB6 := hid (bt HB5.out hb)
  have HH6 : Hid (Hand w6 ao bo co lo mo xs ys zs ls ms) := ⟨HH5.out.1.below hb, HH5.out.2.1.below hb, HH5.out.2.2.1.below hb, HH5.out.2.2.2.below hb, hh1⟩
  obtain ⟨E, HE⟩ : ∃ E, Hid (ms.map (·.e) = E) := ⟨_, hid rfl⟩
  rw [HE.out] at HM1
  have HEM : Hid (∀ x, x ∈ E ↔ x ∈ A ++ B) := HM1.out.mem HOAB.out
  have HEA : Hid (∀ x, x ∈ E → x ∈ A ++ B ++ C) := fun x h => List.mem_append_left _ ((HEM.out x).1 h)
  have HEL : Hid (E.length = k1) := by show _ = _; rw [← HE.out, List.length_map, HML.out]
  have HOEC : Hid (OneEach (E ++ C)) := HON.out _ fun x h => (List.mem_append.1 h).elim (HEA.out x) (HMC.out x)
  have HOEE : Hid (OneEach (E ++ E)) := HON.out _ fun x h => (List.mem_append.1 h).elim (HEA.out x) (HEA.out x)
  have HOEA : Hid (OneEach (E ++ A)) := HON.out _ fun x h => (List.mem_append.1 h).elim (HEA.out x) (HMA.out x)
  have HECM : Hid (∀ x, x ∈ E ++ C ↔ x ∈ A ++ B ++ C) := fun x => by rw [List.mem_append, HEM.out x, List.mem_append (s := A ++ B)]
  clear hl1' hf1 hh1 hm1 hb HG1
  -- Merge(b, a), SameEvents
  have HG2 := hid (cmerge_any w6 bo ao cb ca ys xs m n HM.out HN.out HH6.out.b HH6.out.a (by omega))
  rw [HA.out, HBB.out] at HG2
  go_wp2_with fail
  refine HG2.out.mono ?_
  rintro e w7 ⟨o2, k2, c2, ms2, rfl, hl2', _, hh2, hm2, hb⟩
  have HS2 : Hid (ms.map (·.e) = ms2.map (·.e)) := by show _ = _; rw [HE.out]; exact merge_unique HM1.out hm2 HOAB.out HOBA.out fun x => by rw [List.mem_append, List.mem_append]; exact Or.comm
  obtain rfl : k1 = k2 := by rw [← HML.out, ← hl2', map_len HS2.out]
  have HB7 := hid (bt HB6.out hb)
  have HH7 := hid (HH6.out.below hb)
  have HQ2 := hid (sameEvs_any w7 mo o2 c1 c2 ms ms2 k1 HML.out hl2' HH7.out.m hh2 HS2.out (by omega))
  clear hl2' hh2 hm2 hb HG2 HS2
  go_wp2_with fail
  refine HQ2.out.mono ?_
  rintro e w8 ⟨rfl, hb⟩
  have HB8 := hid (bt HB7.out hb)
  have HH8 := hid (HH7.out.below hb)
  clear hb HQ2
  -- Merge(m, c), Merge(b, c), Merge(a, .), SameEvents
  have HG3 := hid (cmerge_any w8 mo co c1 cc ms zs k1 p HML.out HP.out HH8.out.m HH8.out.c (by omega))
  rw [HE.out, HC.out] at HG3
  go_wp2_with fail
  refine HG3.out.mono ?_
  rintro e w9 ⟨o3, k3, c3, ms3, rfl, hl3', hf3, hh3, hm3, hb⟩
  have hk3 : k3 ≤ k1 + p := by rw [List.length_append, HEL.out, HCL.out] at hf3; exact hf3
  have HB9 := hid (bt HB8.out hb)
  have HH9 := hid (HH8.out.below hb)
  have HL3 := hid hl3'
  have HM3 := hid hm3
  have HH3 := hid hh3
  clear hl3' hf3 hh3 hm3 hb HG3
  have HG4 := hid (cmerge_any w9 bo co cb cc ys zs m p HM.out HP.out HH9.out.b HH9.out.c (by omega))
  rw [HBB.out, HC.out] at HG4
  go_wp2_with fail
  refine HG4.out.mono ?_
  rintro e w10 ⟨o4, k4, c4, ms4, rfl, hl4', hf4, hh4, hm4, hb⟩
  have hk4 : k4 ≤ m + p := by rw [List.length_append, HBL.out, HCL.out] at hf4; exact hf4
  have HB10 := hid (bt HB9.out hb)
  have HH10 := hid (HH9.out.below hb)
  have HH3' := hid (HH3.out.below hb)
  have HM4 := hid hm4
  have HG5 := hid (cmerge_any w10 ao o4 ca c4 xs ms4 n k4 HN.out hl4' HH10.out.a hh4 (by omega))
  rw [HA.out] at HG5
  have HO5 : Hid (OneEach (A ++ ms4.map (·.e))) := HON.out _ fun x h => (List.mem_append.1 h).elim (HMA.out x) (fun h1 => (List.mem_append.1 ((HM4.out.mem HOBC.out x).1 h1)).elim (HMB.out x) (HMC.out x))
  have HM5 : Hid (∀ x, x ∈ E ++ C ↔ x ∈ A ++ ms4.map (·.e)) := fun x => by
    rw [HECM.out x, List.mem_append (s := A), HM4.out.mem HOBC.out x, List.mem_append, List.mem_append, List.mem_append]
    exact or_assoc
  clear hl4' hf4 hh4 hm4 hb HG4
  go_wp2_with fail
  refine HG5.out.mono ?_
  rintro e w11 ⟨o5, k5, c5, ms5, rfl, hl5', _, hh5, hm5, hb⟩
  have HS5 : Hid (ms3.map (·.e) = ms5.map (·.e)) := merge_unique HM3.out hm5 HOEC.out HO5.out HM5.out
  obtain rfl : k3 = k5 := by rw [← HL3.out, ← hl5', map_len HS5.out]
  have HB11 := hid (bt HB10.out hb)
  have HH11 := hid (HH10.out.below hb)
  have HQ5 := hid (sameEvs_any w11 o3 o5 c3 c5 ms3 ms5 k3 HL3.out hl5' (HH3'.out.below hb) hh5 HS5.out (by omega))
  clear hl5' hh5 hm5 hb HG5 HS5 HM5 HO5
  go_wp2_with fail
  refine HQ5.out.mono ?_
  rintro e w12 ⟨rfl, hb⟩
  have HB12 := hid (bt HB11.out hb)
  have HH12 := hid (HH11.out.below hb)
  clear hb HQ5
  -- Merge(m, m), SameEvents
  have HG6 := hid (cmerge_any w12 mo mo c1 c1 ms ms k1 k1 HML.out HML.out HH12.out.m HH12.out.m (by omega))
  rw [HE.out] at HG6
  go_wp2_with fail
  refine HG6.out.mono ?_
  rintro e w13 ⟨o6, k6, c6, ms6, rfl, hl6', _, hh6, hm6, hb⟩
  have HS6 : Hid (ms6.map (·.e) = ms.map (·.e)) := by show _ = _; rw [HE.out]; exact merge_unique hm6 HM1.out HOEE.out HOAB.out fun x => by rw [List.mem_append, or_self]; exact HEM.out x
  obtain rfl : k1 = k6 := by rw [← HML.out, ← hl6', map_len HS6.out]
  have HB13 := hid (bt HB12.out hb)
  have HH13 := hid (HH12.out.below hb)
  have HQ6 := hid (sameEvs_any w13 o6 mo c6 c1 ms6 ms k1 hl6' HML.out hh6 HH13.out.m HS6.out (by omega))
  clear hl6' hh6 hm6 hb HG6 HS6
  go_wp2_with fail
  refine HQ6.out.mono ?_
  rintro e w14 ⟨rfl, hb⟩
  have HB14 := hid (bt HB13.out hb)
  have HH14 := hid (HH13.out.below hb)
  clear hb HQ6
  -- Merge(m, a), SameEvents
  have HG7 := hid (cmerge_any w14 mo ao c1 ca ms xs k1 n HML.out HN.out HH14.out.m HH14.out.a (by omega))
  rw [HE.out, HA.out] at HG7
  go_wp2_with fail
  refine HG7.out.mono ?_
  rintro e w15 ⟨o7, k7, c7, ms7, rfl, hl7', _, hh7, hm7, hb⟩
  have HS7 : Hid (ms7.map (·.e) = ms.map (·.e)) := by
    show _ = _
    rw [HE.out]
    refine merge_unique hm7 HM1.out HOEA.out HOAB.out fun x => ?_
    rw [List.mem_append, HEM.out x, List.mem_append]
    exact ⟨fun h => h.elim id .inl, .inl⟩
  obtain rfl : k1 = k7 := by rw [← HML.out, ← hl7', map_len HS7.out]
  have HB15 := hid (bt HB14.out hb)
  have HH15 := hid (HH14.out.below hb)
  have HQ7 := hid (sameEvs_any w15 o7 mo c7 c1 ms7 ms k1 hl7' HML.out hh7 HH15.out.m HS7.out (by omega))
  clear hl7' hh7 hm7 hb HG7 HS7
  go_wp2_with fail
  refine HQ7.out.mono ?_
  rintro e w16 ⟨rfl, hb⟩
  have HB16 := hid (bt HB15.out hb)
  have HH16 := hid (HH15.out.below hb)
  clear hb HQ7
  -- lines of all
  have HG8 := hid (cmerge_any w16 mo co c1 cc ms zs k1 p HML.out HP.out HH16.out.m HH16.out.c (by omega))
  rw [HE.out, HC.out] at HG8
  go_wp2_with fail
  refine HG8.out.mono ?_
  rintro e w17 ⟨o8, k8, c8, ms8, rfl, hl8', hf8, hh8, hm8, hb⟩
  have hk8 : k8 ≤ k1 + p := by rw [List.length_append, HEL.out, HCL.out] at hf8; exact hf8
  have HB17 := hid (bt HB16.out hb)
  have HH17 := hid (HH16.out.below hb)
  have HM8 := hid (fun x => (hm8.mem HOEC.out x).trans (HECM.out x))
  have HO8 : Hid (OneEach (ms8.map (·.e))) := HON.out _ fun x h => (HM8.out x).1 h
  obtain ⟨f, hf⟩ : ∃ f, linesQ name (ls.map (·.e)) = f := ⟨_, rfl⟩
  have HF8 : Hid (linesQ name (ms8.map (·.e)) = f) := by show _ = _; rw [← hf, HLE.out]; exact linesQ_same HO8.out HRL.out.2 HM8.out name
  have HF := hid hf
  have HD8 : Hid (∀ x ∈ ms8, x.e.deps.length ≤ 1048576) := fun x hx => HDL.out _ ((HM8.out _).1 (List.mem_map.2 ⟨x, hx, rfl⟩))
  have HQ8 : Hid (∀ x ∈ ms8, 0 ≤ x.e.qty ∧ x.e.qty ≤ 1000) := fun x hx => HRL.out.1 _ ((HM8.out _).1 (List.mem_map.2 ⟨x, hx, rfl⟩))
  have HD9 : Hid (∀ x ∈ ls, x.e.deps.length ≤ 1048576) := fun x hx => HDL.out _ (by rw [← HLE.out]; exact List.mem_map.2 ⟨x, hx, rfl⟩)
  have HQ9 : Hid (∀ x ∈ ls, 0 ≤ x.e.qty ∧ x.e.qty ≤ 1000) := fun x hx => HRL.out.1 _ (by rw [← HLE.out]; exact List.mem_map.2 ⟨x, hx, rfl⟩)
  have HL8 := hid (lines_at (Sc.start w17) o8 c8 ms8 k8 hl8' hh8 (by omega) HD8.out HQ8.out name HF8.out)
  clear hl8' hf8 hh8 hm8 hb hf HG8
  go_wp2_with fail
  refine HL8.out.mono ?_
  rintro e w18 ⟨lo1, ln1, lc1, rfl, hat, hb, _⟩
  have HAT := hid hat
  have HB18 := hid (bt HB17.out hb)
  have HH18 := hid (HH17.out.below hb)
  clear hat hb HL8
  have HL9 := hid (lines_at (Sc.start w18) lo cl ls q HLL.out HH18.out.l hqs HD9.out HQ9.out name HF.out)
  rw [hq] at HL9
  go_wp2_with fail
  refine HL9.out.mono ?_
  rintro e w19 ⟨lo2, ln2, lc2, rfl, hat2, hb, _⟩
  have HAT1 := hid (HAT.out.below hb)
  have HAT2 := hid hat2
  have HB19 := hid (bt HB18.out hb)
  clear hat2 hb HL9
  go_wp2_with fail
  refine (same_at lc1 lc2 HAT1.out HAT2.out).mono ?_
  rintro e w20 ⟨rfl, qq, rfl⟩
  go_wp2
  go_ret
  exact ⟨rfl, below_dn HB19.out qq⟩
end Go.Proofs.Ytdfdgijaekhioaa
