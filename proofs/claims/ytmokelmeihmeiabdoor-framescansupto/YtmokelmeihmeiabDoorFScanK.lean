/-
  The iterator of frame.frames, for whatever a round keeps ('Kp'): it yields the frames of its bytes, in order, till it is told to stop; in a fence. And append of bytes in a fence.
-/
import Derived.Test.YtmokelmeihmeiabDoorFScanB
namespace Go.Proofs.YtmokelmeihmeiabDoor
open Go.RowKit Go.Shelf
attribute [local go_sem] Oper.semAt_some

set_option maxRecDepth 100000 in
set_option maxHeartbeats 2000000 in
theorem frames1_inK (n : Nat) (hn : 1 ≤ n) (l Bs : Nat) (Kp : World → World → Prop) (hKr : ∀ W, Kp W W) (hKt : ∀ {A B C : World}, Kp A B → Kp B C → Kp A C) (hKd : ∀ W q, Kp W (W.drewN q)) (ao : Option Addr) (len cap : Nat) (bs : List Int) (J Jx : List (Int × ByteArray) → World → Prop) (W : World)
    (hJ : AbidesFrom W.heap.size J) 
    (hY : ∀ pre x W1, J pre W1 → pre.length < (scanAll bs).length → YieldAt Fence.wide (n - 1) Tryd.prog l #[.int .i64 x.1, .string x.2] W1 fun e W' =>
      (e = .returned (.bool true) ∧ J (pre ++ [x]) W' ∧ Kp W1 W') ∨ (e = .returned (.bool false) ∧ Jx (pre ++ [x]) W'))
    (hH : ∀ W', Kp W W' → Boxed W' Bs 22 (.slice ao len cap) ∧ Held W' ao len cap bs ∧ Tab W' ∧ W.heap.size ≤ W'.heap.size) (h0 : J [] W) (hlen : bs.length = len) (hsmall : len ≤ 1000000000000) :
    CallsIn Fence.wide n Tryd.prog 24 #[.func (.yield l) #[] #[], .pointer (some ⟨Bs, 0, none⟩)] W fun e W' => (∃ v, e = .returned v) ∧
      ((∃ ys, ys = scanAll bs ∧ J ys W') ∨ (∃ pre, pre <+: scanAll bs ∧ Jx pre W')) := by
  refine callsIn_of_wp Tryd.func24 rfl trivial ?_ rfl
  simp only [Tryd.ntmps24, List.size_toArray, List.length_cons, List.length_nil, Nat.reduceAdd, Nat.reduceSub, Array.replicate_succ, Array.replicate_zero, List.push_toArray, List.append_toArray, List.nil_append, List.cons_append]
  gi_wp2
  gi_loopw [3] (fun i wr => ∃ (k f : Nat) (pre : List (Int × ByteArray)), k ≤ len ∧ len ≤ k + f ∧ i = .int .i64 k ∧ pre ++ scanFrom f k bs = scanAll bs ∧ J pre wr ∧ Kp W wr) (fun i _ => len - (intOf i).toNat)
  case atStart => exact ⟨0, len, [], by omega, by omega, rfl, by rw [scanAll, hlen]; rfl, h0, hKr _⟩
  case round =>
    obtain ⟨k, f, pre, hk, hkf, rfl, hpre, hJs, hK⟩ := hrel
    obtain ⟨hbx, hHr, hTr, hsz⟩ := hH wr hK
    have hc := hbx.cell
    have hsl := fun X => run_cut_l (P := Tryd.prog) X 22 5 Tryd.underlying22 Tryd.size5 ao len cap k (k : Int) rfl hk
    have hcut := hHr.cutl (l := k) hk
    have HJS := hid hJs
    have HK := hid hK
    have HPRE := hid hpre
    have HY := hid hY
    have HJ := hid hJ
    have HH := hid hH
    have hJq : ∀ q, Hid (J pre (wr.drewN q)) := fun q => hJ _ _ _ none hJs (grownBy_dn _ _ _) (by intro r hr; cases hr)
    have HJQ := hid hJq
    clear hJs hK hpre hY hJ hH hJq
    cases hf : fstOf (bs.drop k) with
    | none =>
      have HCL := hid (first_no _ _ _ _ wr hTr hcut hf)
      have HE : Hid (pre = scanAll bs) := by
        show _ = _
        rw [← HPRE.out, scan_no hf, List.append_nil]
      clear hf hcut hHr hTr
      gi_wp2_with fail
      refine ⟨trivial, (callsIn_wide.2 HCL.out).mono ?_⟩
      rintro e w2 ⟨rfl, q, rfl⟩
      gi_wp2
      refine ⟨fun _ h => (by cases h), ?_⟩
      gi_wp2
      refine bodyPost_ret (results_none rfl _ _ _) rfl ?_
      exact ⟨⟨_, rfl⟩, .inl ⟨pre, HE.out, (HJQ.out q).out⟩⟩
    | some p =>
      have HCL := hid (first_yes _ _ _ _ _ wr hTr hcut hf)
      obtain ⟨h8, hn1, hn2, _, _, hpl⟩ := fst_some hf
      rw [List.length_drop] at h8 hn2
      obtain ⟨f', rfl⟩ : ∃ f', f = f' + 1 := ⟨f - 1, by omega⟩
      have hS : (strOfNums p).size = p.length := strOfNums_size p
      have HP2 : Hid (pre ++ [((k : Int), strOfNums p)] ++ scanFrom f' (k + 8 + p.length) bs = scanAll bs) := by
        show _ = _
        rw [← HPRE.out]
        simp [scanFrom, hf]
      have hll : pre.length < (scanAll bs).length := by
        rw [← HP2.out]
        simp
      obtain ⟨S, hSe⟩ : ∃ S, S = strOfNums p := ⟨_, rfl⟩
      rw [← hSe] at HCL HP2 hS
      have hS2 : S.size ≤ 65536 := by omega
      have hkS : k + 8 + S.size ≤ len := by omega
      rw [← hS] at HP2
      clear hf hcut hHr hTr h8 hn1 hn2 hpl hSe hS
      gi_wp2_with fail
      refine ⟨trivial, (callsIn_wide.2 HCL.out).mono ?_⟩
      rintro e w2 ⟨rfl, q, rfl⟩
      obtain ⟨fn, tmps, assign, body, hy, hR⟩ := HY.out pre ((k : Int), S) (wr.drewN q) (HJQ.out q).out hll
      dsimp only at hy
      gi_wp2
      refine hR.mono ?_
      rintro e W3 (⟨rfl, hJ3, hk3⟩ | ⟨rfl, hJx3⟩)
      · have HK3 : Hid (Kp W W3) := hKt HK.out (hKt (hKd _ _) hk3)
        have HJ3 := hid hJ3
        clear hJ3 hk3 hR hy
        gi_wp2
        go_roundw
        case rel => exact ⟨k + 8 + S.size, f', pre ++ [((k : Int), S)], by omega, by omega, by go_num, HP2.out, HJ3.out, HK3.out⟩
        case measure => simp [intOf]; omega
      · gi_wp2
        refine bodyPost_ret (results_none rfl _ _ _) rfl ?_
        exact ⟨⟨_, rfl⟩, .inr ⟨pre ++ [((k : Int), S)], ⟨_, HP2.out⟩, hJx3⟩⟩

theorem frames_stopsK (n : Nat) (hn : 1 ≤ n) (Bs : Nat) (Kp : World → World → Prop) (hKr : ∀ W, Kp W W) (hKt : ∀ {A B C : World}, Kp A B → Kp B C → Kp A C) (hKd : ∀ W q, Kp W (W.drewN q)) (ao : Option Addr) (len cap : Nat) (bs : List Int) (w : World)
    (hKB : ∀ W, Below w.heap.size w W → Kp w W) (hH : ∀ W', Kp w W' → Boxed W' Bs 22 (.slice ao len cap) ∧ Held W' ao len cap bs ∧ Tab W') (hs : ∀ {A B : World}, Kp A B → A.heap.size ≤ B.heap.size) (hlen : bs.length = len) (hsmall : len ≤ 1000000000000) :
    SeqStopsK Fence.wide n Tryd.prog 24 #[.pointer (some ⟨Bs, 0, none⟩)] (fun x : Int × ByteArray => #[Value.int .i64 x.1, Value.string x.2]) Kp (fun ys => ys = scanAll bs) (fun pre => pre <+: scanAll bs) (scanAll bs).length w :=
  fun l J Jx W hW hJ _ hY h0 =>
    frames1_inK n hn l Bs Kp hKr hKt hKd ao len cap bs J Jx W hJ hY (fun W' hk => by
      obtain ⟨h1, h2, h3⟩ := hH W' (hKt (hKB W hW) hk)
      exact ⟨h1, h2, h3, hs hk⟩) h0 hlen hsmall

theorem wpListIn_append_held {F : Fence} {n : Nat} {P : Program} (w : World) {ops : Array Oper} {rest : List Oper} {o : Oper} {a : Act} {Q : Exit → Act → World → Prop} (hgd : o.guard = none) (s x : Operand) (t : TypeId)
    (ho : o.op = .call { callee := .builtin .append, args := #[s, x], argTypes := #[t, t] })
    (base : Nat) (e : TypeId) (i : TypeInfo) (ht : P.underlying t = some (.slice e)) (hi : P.info? e = some i) (hz : i.zero = some (.int .u8 0)) (hsize : i.size = 1) (hby : i.bytes = 1)
    (v : Value) (k : Nat) (bs : List Int) (hs : a.eval s = v) (hown : w.ownsRow base e 1 v k (nums bs)) (hbs : AllB bs)
    (ao : Option Addr) (m c : Nat) (cs : List Int) (hx : a.eval x = .slice ao m c) (hh : Held w ao m c cs) (hsum : k + m ≤ 140737488355328) (hbase : base ≤ w.heap.size)
    (h : ∀ bo cp w', (v ≠ .slice none 0 0 → ∃ ad, bo = some ad) → Held w' bo (k + m) cp (bs ++ cs) → Below base w w' → wpListIn F n P ops Q rest (a.put o.dst (.slice bo (k + m) cp)) w') :
    wpListIn F n P ops Q (o :: rest) a w := by
  cases ao with
  | none =>
    have hc := hh.nil rfl
    have hm : m = 0 := by have := hh.hcap; omega
    subst hm hc
    have hcs : cs = [] := List.eq_nil_of_length_eq_zero hh.hlen
    subst hcs
    obtain ⟨bo, cp, rfl, hhv⟩ := held_of_own hown hbs
    have hr := run_append_owned_none (P := P) w base t o.type e i 1 ht hi _ k _ hown
    refine wpListIn_plain hgd fun K hK => ?_
    unfold Oper.wpIn
    refine ⟨?_, ?_⟩
    · simp [Oper.about, ho, resolve, Target.leads, Sem.run_pure]
    · rw [Oper.semAt_plain F _ _ (by rw [ho]; intro c hc'; cases hc')]
      simp [execOp, ho, resolve, invoke, builtin, hs, hx, hr, Result.andThen]
      have := h bo cp w (fun hv => by
        rcases hown.2 with ⟨h1, _⟩ | ⟨g, cap, cur, h1, _⟩
        · exact absurd h1 hv
        · cases h1; exact ⟨_, rfl⟩) (by simpa using hhv) (Below.refl _ _)
      exact hK _ _ (by simpa using this)
  | some ad =>
    refine wpListIn_append_own w hgd s x t ho base e i (.int .u8 0) 1 1 ht hi hz hsize hby rfl (by decide) v k (nums bs) hs hown ad m c (nums cs) hx (by rw [nums_len, hh.hlen]; omega) (hh.news ad rfl) (nums_one cs) (by unfold maxLen; omega) (by omega) hbase ?_
    intro v' w' hown' hgrow hnil
    rw [← nums_append] at hown'
    obtain ⟨bo, cp, rfl, hhv⟩ := held_of_own hown' (hbs.append hh.byte)
    refine h bo cp w' (fun hv => ?_) hhv ((Below.refl _ _).grown hgrow hbase (own_lt hown))
    cases bo with
    | some ad => exact ⟨ad, rfl⟩
    | none =>
      have hc := hhv.nil rfl
      have hl := hhv.hcap
      exfalso
      apply hv
      have h0 : k + m = 0 := by omega
      have := hnil.1 (by rw [hc]; congr 1)
      exact this.1
end Go.Proofs.YtmokelmeihmeiabDoor
