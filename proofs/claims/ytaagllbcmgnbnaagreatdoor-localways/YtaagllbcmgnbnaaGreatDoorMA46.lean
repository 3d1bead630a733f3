/- Texts laid together: NGat, NRun, MContr, MLaw. -/
import Derived.Test.YtaagllbcmgnbnaaGreatDoorMA43
import Derived.Test.YtaagllbcmgnbnaaGreatDoorMA31
import Derived.Test.YtaagllbcmgnbnaaGreatDoorMA39
import Derived.Test.YtaagllbcmgnbnaaGreatDoorMA45
import Derived.Test.YtaagllbcmgnbnaaGreatDoorMA38
import Derived.Test.YtaagllbcmgnbnaaGreatDoorMA40
/- local: Gather, Open, Runs. -/
namespace Go.Proofs.YtaagllbcmgnbnaaGreatDoor
open Go.RowKit
set_option linter.unusedVariables false
set_option maxRecDepth 100000

theorem foldRes_may {agg bound : Int} {l : List Rc} (hw : wayC agg bound = true) (hl : l.length ≤ 1536) (hk : keysOk l = true) : foldRes agg bound l = fin (foldR agg bound.toNat l) := by
  unfold foldRes
  rw [hw, hk, decide_eq_true hl]
  rfl
set_option maxHeartbeats 3200000 in
theorem lgath_any (j : Jb) (a5 : Option Addr) (n5 c5 : Nat) (u : Value) (l : List Rc) (w : World) (h : RS w u l) (hwf : Wf l) (hl : l.length ≤ 100000) (hp : j.prog.size ≤ 140737488351232) (hf : -9223372036854775808 ≤ j.fuel ∧ j.fuel ≤ 9223372036854775807) (hE : Env w) (hH : Halves w) :
    Calls Tryz.prog 39 #[jobV j (.slice a5 n5 c5), u] w (ByR w (gathRes j l)) := by
  have hst : ∀ (W : World) (o : Obj), Below W.heap.size W (W.alloc o) := fun W o => (Below.refl _ _).alloc (Nat.le_refl _) _
  obtain ⟨W0, hW0⟩ : ∃ W0 : World, W0 = w.alloc (.cells #[.int .i64 j.id, .string j.prog, .int .i64 j.agg, .int .i64 j.bound, .int .i64 j.fuel, .slice a5 n5 c5, .int .i64 j.parts] 51) := ⟨_, rfl⟩
  have hb0 : Below w.heap.size w W0 := by rw [hW0]; exact hst _ _
  have B0 : BlkJ W0 w.heap.size j (.slice a5 n5 c5) := by rw [hW0]; exact BlkJ.new w _ _
  have h0 := h.below hb0
  obtain ⟨⟨G1, G2⟩, hG⟩ : ∃ G, G = gathRes j l := ⟨_, rfl⟩
  rw [← hG]
  have HMA := hidM (lmap_any j a5 n5 c5 u l W0 h0 hwf hl hp hf (hE.low hb0))
  have HB0 := hidM hb0
  have HW := hidM hW0.symm
  have HHV := hidM (fun (W : World) (hW : Below W0.heap.size W0 W) => (hH.below hb0 hH.pos).below hW (by have := hH.pos; have := hb0.size; omega))
  have HFA := hidM (show ∀ W, Below W0.heap.size W0 W → W.cell? ⟨w.heap.size, 2, none⟩ = some (.int .i64 j.agg) ∧ W.cell? ⟨w.heap.size, 3, none⟩ = some (.int .i64 j.bound) from fun W hW => by
    obtain ⟨-, -, z2, z3, -⟩ := (B0.below hW).cells
    exact ⟨z2, z3⟩)
  obtain ⟨r0, r1, r2, r3, r4, r5, r6⟩ := B0.cells
  obtain ⟨ju, cu, rfl, -⟩ := h0
  clear hW0 B0 h hst hb0 hE hH
  by_cases hm : (mapRes j l).2 = 0
  · obtain ⟨gw, gwf, gk, glen⟩ := mapRes_ok hwf hm
    have hR1 := fun h1 => hG.trans (gath_fold hm h1)
    have hR2 := fun h1 h2 => hG.trans (gath_long hm h1 h2)
    have hR3 := fun h1 h2 => hG.trans (gath_ok hm h1 h2)
    obtain ⟨⟨M1, M2⟩, hM⟩ : ∃ M, M = mapRes j l := ⟨_, rfl⟩
    rw [← hM] at HMA hR1 hR2 hR3 gwf gk glen hm
    simp only at HMA hR1 hR2 hR3 gwf gk glen hm
    subst hm
    have HFO := hidM (fun (W : World) (v : Value) (hv : RS W v M1) => fold_any j.agg j.bound v M1 W hv gwf (by omega))
    rw [foldRes_may gw (by omega) gk] at HFO
    have hfine := fine_fold gw gk gwf (by omega)
    obtain ⟨⟨F1, F2⟩, hF⟩ : ∃ F, F = foldR j.agg j.bound.toNat M1 := ⟨_, rfl⟩
    rw [← hF] at HFO hR1 hR2 hR3 hfine
    simp only at HFO hR1 hR2 hR3 hfine
    by_cases hf2 : F2 = 0
    · subst hf2
      rw [show fin (F1, (0 : Int)) = (F1, 0) from rfl] at HFO
      have HRB := hidM (fun (W : World) (v : Value) (hv : WS W v F1) (hc : CapOk v) => rbytes_ok j.agg j.bound v F1 W hv hc hfine)
      obtain ⟨S, hS⟩ : ∃ S, S = rowsBy j.agg F1 := ⟨_, rfl⟩
      rw [← hS] at HRB hR2 hR3
      have hfs := frame_size S
      by_cases hs8 : 32768 < S.size
      · have HFB := hidM (fun (W : World) => fbytes_big S W hs8)
        have HG := hidM (Prod.mk.inj (hR2 rfl (by omega)))
        clear hR1 hR2 hR3 hF hS hs8 hfs hfine hM hG
        go_enter Tryz.func39, Tryz.ntmps39
        go_wp2_with (first
          | (go_at_call 61; rw [HW.out]; refine HMA.out.mono ?_; rintro e W1 ⟨⟨v1, rfl, ho1⟩, hb1⟩; have HO1 := hidM ho1; obtain ⟨z2, z3⟩ := HFA.out W1 hb1; obtain ⟨a1, c1, rfl, -⟩ := id (RS.own ho1); clear ho1)
          | (go_at_call 30; refine (HFO.out _ _ (RS.own HO1.out)).mono ?_; rintro e W2 ⟨⟨v2, rfl, ho2⟩, hb2⟩; have HO2 := hidM ho2; obtain ⟨z2', z3'⟩ := HFA.out W2 (nxt hb1 hb2); obtain ⟨a2, c2, rfl, -⟩ := id (OwnW.ws ho2); clear ho2)
          | (go_at_call 62; refine (HRB.out _ _ (OwnW.ws HO2.out) (OwnW.cap HO2.out)).mono ?_; rintro e W3 ⟨rfl, hb3⟩)
          | (go_at_call 63; refine (HFB.out _).mono ?_; rintro e W4 ⟨rfl, hw4⟩; subst hw4))
        go_ret2
        exact ⟨by rw [HG.out.1, HG.out.2]; rfl, nxt HB0.out (nxt hb1 (nxt hb2 hb3))⟩
      · have hs8' : S.size ≤ 32768 := by omega
        have HFB := hidM (fun (W : World) (hW : Halves W) => fbytes_ok S W hs8' hW)
        obtain ⟨T, hT⟩ : ∃ T, T = frameOf S := ⟨_, rfl⟩
        rw [← hT] at HFB hR2 hR3 hfs
        by_cases hbig : 32704 < T.size
        · have HG := hidM (Prod.mk.inj (hR2 rfl hbig))
          have hd : decide ((32704 : Int) < (T.size : Int)) = true := decide_eq_true (by omega)
          have hd1 : (32704 : Int) < (T.size : Int) := by omega
          clear hR1 hR2 hR3 hF hS hs8 hs8' hfs hfine hM hG hT hbig
          go_enter Tryz.func39, Tryz.ntmps39
          go_wp2_with (first
            | (go_at_call 61; rw [HW.out]; refine HMA.out.mono ?_; rintro e W1 ⟨⟨v1, rfl, ho1⟩, hb1⟩; have HO1 := hidM ho1; obtain ⟨z2, z3⟩ := HFA.out W1 hb1; obtain ⟨a1, c1, rfl, -⟩ := id (RS.own ho1); clear ho1)
            | (go_at_call 30; refine (HFO.out _ _ (RS.own HO1.out)).mono ?_; rintro e W2 ⟨⟨v2, rfl, ho2⟩, hb2⟩; have HO2 := hidM ho2; obtain ⟨z2', z3'⟩ := HFA.out W2 (nxt hb1 hb2); obtain ⟨a2, c2, rfl, -⟩ := id (OwnW.ws ho2); clear ho2)
            | (go_at_call 62; refine (HRB.out _ _ (OwnW.ws HO2.out) (OwnW.cap HO2.out)).mono ?_; rintro e W3 ⟨rfl, hb3⟩; have HV3 := HHV.out W3 (nxt hb1 (nxt hb2 hb3)))
            | (go_at_call 63; refine (HFB.out _ HV3).mono ?_; rintro e W4 ⟨rfl, hb4⟩))
          go_ret2
          exact ⟨by rw [HG.out.1, HG.out.2]; rfl, nxt HB0.out (nxt hb1 (nxt hb2 (nxt hb3 hb4)))⟩
        · have HG := hidM (Prod.mk.inj (hR3 rfl hbig))
          have hd : decide ((32704 : Int) < (T.size : Int)) = false := decide_eq_false (by omega)
          have hd1 : ¬ (32704 : Int) < (T.size : Int) := by omega
          clear hR1 hR2 hR3 hF hS hs8 hs8' hfs hfine hM hG hT hbig
          go_enter Tryz.func39, Tryz.ntmps39
          go_wp2_with (first
            | (go_at_call 61; rw [HW.out]; refine HMA.out.mono ?_; rintro e W1 ⟨⟨v1, rfl, ho1⟩, hb1⟩; have HO1 := hidM ho1; obtain ⟨z2, z3⟩ := HFA.out W1 hb1; obtain ⟨a1, c1, rfl, -⟩ := id (RS.own ho1); clear ho1)
            | (go_at_call 30; refine (HFO.out _ _ (RS.own HO1.out)).mono ?_; rintro e W2 ⟨⟨v2, rfl, ho2⟩, hb2⟩; have HO2 := hidM ho2; obtain ⟨z2', z3'⟩ := HFA.out W2 (nxt hb1 hb2); obtain ⟨a2, c2, rfl, -⟩ := id (OwnW.ws ho2); clear ho2)
            | (go_at_call 62; refine (HRB.out _ _ (OwnW.ws HO2.out) (OwnW.cap HO2.out)).mono ?_; rintro e W3 ⟨rfl, hb3⟩; have HV3 := HHV.out W3 (nxt hb1 (nxt hb2 hb3)))
            | (go_at_call 63; refine (HFB.out _ HV3).mono ?_; rintro e W4 ⟨rfl, hb4⟩))
          go_ret2
          exact ⟨by rw [HG.out.1, HG.out.2]; rfl, nxt HB0.out (nxt hb1 (nxt hb2 (nxt hb3 hb4)))⟩
    · have HG := hidM (Prod.mk.inj (hR1 hf2))
      have hbe : (F2 != 0) = true := by simpa using hf2
      rw [show fin (F1, F2) = ([], F2) from fin_bad hf2] at HFO
      clear hR1 hR2 hR3 hF hM hG hf2 hfine
      go_enter Tryz.func39, Tryz.ntmps39
      go_wp2_with (first
        | (go_at_call 61; rw [HW.out]; refine HMA.out.mono ?_; rintro e W1 ⟨⟨v1, rfl, ho1⟩, hb1⟩; have HO1 := hidM ho1; obtain ⟨z2, z3⟩ := HFA.out W1 hb1; obtain ⟨a1, c1, rfl, -⟩ := id (RS.own ho1); clear ho1)
        | (go_at_call 30; refine (HFO.out _ _ (RS.own HO1.out)).mono ?_; rintro e W2 ⟨⟨v2, rfl, ho2⟩, hb2⟩; have HO2 := hidM ho2; obtain ⟨z2', z3'⟩ := HFA.out W2 (nxt hb1 hb2); obtain ⟨a2, c2, rfl, -⟩ := id (OwnW.ws ho2); clear ho2))
      go_ret2
      exact ⟨by rw [HG.out.1, HG.out.2]; rfl, nxt HB0.out (nxt hb1 hb2)⟩
  · have HG := hidM (Prod.mk.inj (hG.trans (gath_map hm)))
    have hbe : ((mapRes j l).2 != 0) = true := by simpa using hm
    obtain ⟨⟨M1, M2⟩, hM⟩ : ∃ M, M = mapRes j l := ⟨_, rfl⟩
    rw [← hM] at HMA HG hbe
    simp only at HMA HG hbe
    clear hM hm hG
    go_enter Tryz.func39, Tryz.ntmps39
    go_wp2_with (go_at_call 61; rw [HW.out]; refine HMA.out.mono ?_; rintro e W1 ⟨⟨v1, rfl, ho1⟩, hb1⟩; have HO1 := hidM ho1; obtain ⟨z2, z3⟩ := HFA.out W1 hb1; obtain ⟨a1, c1, rfl, -⟩ := id (RS.own ho1); clear ho1)
    go_ret2
    exact ⟨by rw [HG.out.1, HG.out.2]; rfl, nxt HB0.out hb1⟩
end Go.Proofs.YtaagllbcmgnbnaaGreatDoor
/- local: Runs. -/
namespace Go.Proofs.YtaagllbcmgnbnaaGreatDoor
open Go.RowKit
set_option linter.unusedVariables false
set_option maxRecDepth 100000

theorem RS.rest {w : World} {b off cap : Nat} {l : List Rc} (h : RS w (.slice (some ⟨b, off, none⟩) l.length cap) l) (i : Nat) (hi : i < l.length) (cap' : Nat) : RS w (.slice (some ⟨b, off + i * 3, none⟩) (l.drop i).length cap') (l.drop i) := by
  have := h.sub i l.length cap' hi
  rwa [List.take_of_length_le (by simp)] at this
theorem keysOkN_sub {l c : List Rc} (h : keysOk l = true) (hc : ∀ x ∈ c, x ∈ l) : keysOk c = true := by
  unfold keysOk at h ⊢
  rw [List.all_eq_true] at h ⊢
  exact fun x hx => h x (hc x hx)
set_option maxHeartbeats 4000000 in
theorem lruns_own (agg bound size : Int) (a : Option Addr) (cap : Nat) (l : List Rc) (w : World) (h : RS w (.slice a l.length cap) l) (hcap : l.length ≤ cap) (hwf : Wf l) (hl : l.length ≤ 100000) (hs : -9223372036854775808 ≤ size ∧ size ≤ 9223372036854775807) :
    Calls Tryz.prog 10 #[.int .i64 agg, .int .i64 bound, .int .i64 size, .slice a l.length cap] w fun e w' => (∃ v', e = .returned (.tuple #[v', .int .i64 (runsRes agg bound size l).2]) ∧ OwnRs w' w.heap.size v' (runsRes agg bound size l).1) ∧ Below w.heap.size w w' := by
  have HMF := hidM (lmayFold_any agg bound _ l w h hwf hl)
  by_cases hs1 : size < 1
  · have e : runsRes agg bound size l = ([], 1) := by unfold runsRes; rw [decide_eq_false (by omega), Bool.false_and]; rfl
    rw [e]
    clear e
    go_enter Tryz.func10, Tryz.ntmps10
    go_wp2
    go_ret2
    exact ⟨⟨_, rfl, OwnRs.nil _ _⟩, Below.refl _ _⟩
  · have hs1' : 1 ≤ size := by omega
    cases hm : mayFo agg bound l with
    | false =>
      have e : runsRes agg bound size l = ([], 1) := by unfold runsRes; rw [hm, Bool.and_false]; rfl
      rw [e]
      rw [hm] at HMF
      clear e
      go_enter Tryz.func10, Tryz.ntmps10
      go_wp2_with (go_at_call 29; refine HMF.out.mono ?_; rintro e W1 ⟨rfl, hb1⟩)
      go_ret2
      exact ⟨⟨_, rfl, OwnRs.nil _ _⟩, hb1⟩
    | true =>
      obtain ⟨⟨hw, hl15⟩, hko⟩ : (wayC agg bound = true ∧ l.length ≤ 1536) ∧ keysOk l = true := by
        unfold mayFo at hm
        rw [Bool.and_eq_true, Bool.and_eq_true, decide_eq_true_eq] at hm
        exact hm
      obtain ⟨n, rfl⟩ : ∃ n : Nat, size = (n : Int) := ⟨size.toNat, by omega⟩
      have hn1 : 1 ≤ n := by omega
      have e : runsRes agg bound (n : Int) l = runsG agg bound.toNat (cutsM n l) := by unfold runsRes; rw [hm, decide_eq_true hs1', Int.toNat_natCast]; rfl
      rw [e]
      rw [hm] at HMF
      obtain ⟨⟨G1, G2⟩, hG⟩ : ∃ G, G = runsG agg bound.toNat (cutsM n l) := ⟨_, rfl⟩
      rw [← hG]
      have HGN := hidM hG
      have HFO := hidM (fun (W : World) (v : Value) (c : List Rc) (hv : RS W v c) (hc : ∀ x ∈ c, x ∈ l) (hcl : c.length ≤ 1536) => by
        have hf := fold_any agg bound v c W hv (fun x hx => hwf x (hc x hx)) (by omega)
        rw [foldRes_may hw hcl (keysOkN_sub hko hc)] at hf
        exact hf)
      have HS := hidM h
      have HN1 := hidM hn1
      simp only
      clear hm hw hko hG e h hs1
      go_enter Tryz.func10, Tryz.ntmps10
      go_wp2_with (go_at_call 29; refine HMF.out.mono ?_; rintro e W1 ⟨rfl, hb1⟩)
      go_loopw [3, 10] (fun vl vo wr => ∃ (k I m : Nat) (a' : Option Addr) (c' : Nat), vl = .slice a' m c' ∧ m ≤ c' ∧ m ≤ l.length ∧ Hid (m = l.length - I ∧ I = min (k * n) l.length ∧ RS w (.slice a' (l.drop I).length c') (l.drop I)) ∧ k ≤ cutN n l ∧ Hid (CutsTo agg bound.toNat n l k) ∧ OwnRs wr w.heap.size vo (rowsC agg bound.toNat (cutTo n l k)) ∧ Below w.heap.size w wr) (fun vl _ _ => sliceLen vl)
      case atStart => exact ⟨0, 0, l.length, a, cap, rfl, hcap, Nat.le_refl _, hidM ⟨by omega, by simp, by simpa using HS.out⟩, Nat.zero_le _, CutsTo.start _ _ _ _, (OwnRs.nil _ _), hb1⟩
      case round =>
        rename World => w0
        obtain ⟨k, I, m, a', c', rfl, hmc, hml, HI, hk, HO, ho, hbel⟩ := hrel
        have HBEL := hidM hbel
        have HOW := hidM ho
        have hkl := cutN_len (l := l) hn1
        by_cases hlt : 0 < m
        · obtain ⟨hmI, hIk, hRS⟩ := HI.out
          have hIl : I < l.length := by omega
          have hIkn : I = k * n := by omega
          have hdl : (l.drop I).length = m := by rw [List.length_drop]; exact hmI.symm
          obtain ⟨b, off, rfl⟩ : ∃ b off, a' = some ⟨b, off, none⟩ := by
            obtain ⟨a2, c2, e2, hs2⟩ := hRS
            injection e2 with e3
            rcases hs2 with hs2 | ⟨b, off, e4, -⟩
            · rw [hs2] at hdl; simp at hdl; omega
            · exact ⟨b, off, e3.trans e4⟩
          obtain ⟨C, hC⟩ : ∃ C, C = (l.drop I).take n := ⟨_, rfl⟩
          obtain ⟨q, hq⟩ : ∃ q, C.length = q := ⟨_, rfl⟩
          have hqm : q = min n m := by rw [← hq, hC, List.length_take, hdl]
          have hCsub : ∀ x ∈ C, x ∈ l := fun x hx => by rw [hC] at hx; exact List.mem_of_mem_drop (List.mem_of_mem_take hx)
          have hRSC := hidM (fun (W : World) (hW : Below w.heap.size w W) (c'' : Nat) => (by
            have := RS.sub hRS 0 n c'' (by omega)
            simp only [List.drop_zero, Nat.zero_mul, Nat.add_zero] at this
            rw [← hC] at this
            exact this.below hW : RS W (.slice (some ⟨b, off, none⟩) C.length c'') C))
          have HFC := hidM (fun (W : World) (v : Value) (hv : RS W v C) => HFO.out W v C hv hCsub (by omega))
          have hcm : C ∈ cutsM n l := by rw [hC, hIkn]; exact cut_mem hn1 (by omega)
          have hrs := rowsC_succ agg bound.toNat n l k
          rw [← hIkn, ← hC] at hrs
          have hSTEP : (foldR agg bound.toNat C).2 = 0 → CutsTo agg bound.toNat n l (k + 1) := fun hf => HO.out.step (by rw [← hIkn, ← hC]; exact hf)
          have hmi : (if (m : Int) < (n : Int) then (m : Int) else (n : Int)) = (q : Int) := by split <;> omega
          have hmi2 : min (n : Int) (m : Int) = (q : Int) := by omega
          have HK2 := hidM ((cutN_lt (l := l) hn1).2 (show k * n < l.length by omega))
          have HQ := hidM (⟨hqm, hmI, hIkn, hRS⟩ : q = min n m ∧ m = l.length - I ∧ I = k * n ∧ RS w (.slice (some ⟨b, off, none⟩) (l.drop I).length c') (l.drop I))
          have HREST := hidM (fun (a'' : Option Addr) (c'' : Nat) (h : q = m ∨ a'' = some ⟨b, off + q * 3, none⟩) => (⟨by omega, by rw [Nat.succ_mul]; omega, by
            by_cases e : q = m
            · have : l.drop (I + q) = [] := by rw [List.drop_eq_nil_iff]; omega
              rw [this]
              exact ⟨a'', c'', rfl, .inl rfl⟩
            · rw [h.resolve_left e, ← List.drop_drop]
              exact RS.rest hRS q (by omega) c''⟩ : m - q = l.length - (I + q) ∧ I + q = min ((k + 1) * n) l.length ∧ RS w (.slice a'' (l.drop (I + q)).length c'') (l.drop (I + q))))
          have hk5 : k ≤ 100000 := by omega
          have hqc : q ≤ c' := by omega
          have hqi : (q : Int) ≤ (c' : Int) := by omega
          have hqm' : q ≤ m := by omega
          have hqmi : (q : Int) ≤ (m : Int) := by omega
          have hq1 : 1 ≤ q := by omega
          have hcut : True := trivial
          clear hmI hIk hRS hIl hIkn hdl hqm hCsub
          by_cases hcq : c' = q
          · have hcq' := hcq.symm
            subst hcq'
            clear HI HO hk hbel ho hC hcut
            by_cases hf : (foldR agg bound.toNat C).2 = 0
            · rw [fin_ok hf] at HFC
              obtain ⟨⟨F1, F2⟩, hF⟩ : ∃ F, F = foldR agg bound.toNat C := ⟨_, rfl⟩
              have HST := hidM (hSTEP hf)
              rw [← hF] at HFC hf hrs
              simp only at HFC hf hrs
              subst hf
              have HRS2 := hidM hrs
              have HMI := hidM hmi
              clear hF hrs hmi hSTEP
              rw [hq] at hRSC
              go_wp2_with (first
                | (go_at_call 30; refine (HFC.out _ _ (hRSC.out _ HBEL.out _)).mono ?_; rintro e W2 ⟨⟨v1, rfl, ho1⟩, hb2⟩; obtain ⟨v4, W4, q1, q2, q3⟩ := app_run HOW.out HBEL.out ho1 hb2 (by rw [rows_len]; omega); obtain ⟨a1, c1, rfl⟩ := ho1.slice; have U1 := hidM q1; have Q2 := hidM q2; have Q3 := hidM q3; clear q1 q2 q3 ho1)
                | (at_builtin; refine wpList_append_run _ rfl _ _ _ rfl _ _ v4 W4 rfl rfl U1.out ?_)
                | (at_builtin; refine wpList_min_run _ rfl _ _ _ rfl _ _ (.int .i64 (q : Int)) rfl rfl (by rw [run_min_int, HMI.out]) ?_))
              refine ⟨⟨k + 1, I + q, 0, some ⟨b, off, none⟩, 0, rfl, by omega, by omega, hidM ?_, HK2.out, HST.out, by rw [HRS2.out]; exact Q2.out, Q3.out⟩, by simp only [sliceLen]; omega⟩
              have := HREST.out (some ⟨b, off, none⟩) 0 (.inl (by omega))
              rwa [show m - q = 0 by omega] at this
            · have HF := hidM (Prod.mk.inj (HGN.out.trans (runsG_bad (c := C) hcm hf)))
              have h11 := (foldR_err agg bound.toNat C).resolve_left hf
              rw [fin_bad hf, h11] at HFC
              have HMI := hidM hmi
              clear hf h11 hrs hmi hSTEP
              rw [hq] at hRSC
              go_wp2_with (first
                | (go_at_call 30; refine (HFC.out _ _ (hRSC.out _ HBEL.out _)).mono ?_; rintro e W2 ⟨⟨v1, rfl, ho1⟩, hb2⟩; obtain ⟨a1, c1, rfl⟩ := ho1.slice)
                | (at_builtin; refine wpList_min_run _ rfl _ _ _ rfl _ _ (.int .i64 (q : Int)) rfl rfl (by rw [run_min_int, HMI.out]) ?_))
              go_ret2
              exact ⟨⟨_, by rw [HF.out.2]; rfl, by rw [HF.out.1]; exact OwnRs.nil _ _⟩, nxt HBEL.out hb2⟩
          · have hcq2 : ¬ q = c' := fun e => hcq e.symm
            have hqlt : q < c' := by omega
            clear HI HO hk hbel ho hC hcut
            by_cases hf : (foldR agg bound.toNat C).2 = 0
            · rw [fin_ok hf] at HFC
              obtain ⟨⟨F1, F2⟩, hF⟩ : ∃ F, F = foldR agg bound.toNat C := ⟨_, rfl⟩
              have HST := hidM (hSTEP hf)
              rw [← hF] at HFC hf hrs
              simp only at HFC hf hrs
              subst hf
              have HRS2 := hidM hrs
              have HMI := hidM hmi
              clear hF hrs hmi hSTEP
              rw [hq] at hRSC
              go_wp2_with (first
                | (go_at_call 30; refine (HFC.out _ _ (hRSC.out _ HBEL.out _)).mono ?_; rintro e W2 ⟨⟨v1, rfl, ho1⟩, hb2⟩; obtain ⟨v4, W4, q1, q2, q3⟩ := app_run HOW.out HBEL.out ho1 hb2 (by rw [rows_len]; omega); obtain ⟨a1, c1, rfl⟩ := ho1.slice; have U1 := hidM q1; have Q2 := hidM q2; have Q3 := hidM q3; clear q1 q2 q3 ho1)
                | (at_builtin; refine wpList_append_run _ rfl _ _ _ rfl _ _ v4 W4 rfl rfl U1.out ?_)
                | (at_builtin; refine wpList_min_run _ rfl _ _ _ rfl _ _ (.int .i64 (q : Int)) rfl rfl (by rw [run_min_int, HMI.out]) ?_))
              refine ⟨⟨k + 1, I + q, m - q, some ⟨b, off + q * 3, none⟩, c' - q, rfl, by omega, by omega, hidM (HREST.out _ (c' - q) (.inr rfl)), HK2.out, HST.out, by rw [HRS2.out]; exact Q2.out, Q3.out⟩, by simp only [sliceLen]; omega⟩
            · have HF := hidM (Prod.mk.inj (HGN.out.trans (runsG_bad (c := C) hcm hf)))
              have h11 := (foldR_err agg bound.toNat C).resolve_left hf
              rw [fin_bad hf, h11] at HFC
              have HMI := hidM hmi
              clear hf h11 hrs hmi hSTEP
              rw [hq] at hRSC
              go_wp2_with (first
                | (go_at_call 30; refine (HFC.out _ _ (hRSC.out _ HBEL.out _)).mono ?_; rintro e W2 ⟨⟨v1, rfl, ho1⟩, hb2⟩; obtain ⟨a1, c1, rfl⟩ := ho1.slice)
                | (at_builtin; refine wpList_min_run _ rfl _ _ _ rfl _ _ (.int .i64 (q : Int)) rfl rfl (by rw [run_min_int, HMI.out]) ?_))
              go_ret2
              exact ⟨⟨_, by rw [HF.out.2]; rfl, by rw [HF.out.1]; exact OwnRs.nil _ _⟩, nxt HBEL.out hb2⟩
        · have hm0 : m = 0 := by omega
          subst hm0
          have HF := hidM (Prod.mk.inj (HGN.out.trans (HO.out.fin hn1 hk (by have := HI.out.1; have := HI.out.2.1; omega))))
          clear HO HI
          go_wp2
          go_ret2
          exact ⟨⟨_, by rw [HF.out.2]; rfl, by rw [HF.out.1]; exact ho⟩, hbel⟩
theorem lruns_any (agg bound size : Int) (a : Option Addr) (cap : Nat) (l : List Rc) (w : World) (h : RS w (.slice a l.length cap) l) (hcap : l.length ≤ cap) (hwf : Wf l) (hl : l.length ≤ 100000) (hs : -9223372036854775808 ≤ size ∧ size ≤ 9223372036854775807) :
    Calls Tryz.prog 10 #[.int .i64 agg, .int .i64 bound, .int .i64 size, .slice a l.length cap] w fun e w' => (∃ v', e = .returned (.tuple #[v', .int .i64 (runsRes agg bound size l).2]) ∧ RnS w' v' (runsRes agg bound size l).1) ∧ Below w.heap.size w w' := by
  refine (lruns_own agg bound size a cap l w h hcap hwf hl hs).mono ?_
  rintro e w' ⟨⟨v', he, ho⟩, hb⟩
  exact ⟨⟨v', he, ho.rns⟩, hb⟩
end Go.Proofs.YtaagllbcmgnbnaaGreatDoor
/- The program's own contracts of stage 13, gathered: local.Map, Gather, Open, Runs, Merge (NMap, NGat, NRun, NMrg). -/
namespace Go.Proofs.YtaagllbcmgnbnaaGreatDoor
end Go.Proofs.YtaagllbcmgnbnaaGreatDoor
/- What stage 13's laws call: num, wakes. -/
namespace Go.Proofs.YtaagllbcmgnbnaaGreatDoor
open Go.RowKit
set_option linter.unusedVariables false
set_option maxRecDepth 100000

theorem num13_any (e : Int) (w : World) : Calls Tryz.prog 14 #[.int .i64 e] w fun r w' => r = .returned (.int .i64 e) ∧ w' = w := by
  go_enter Tryz.func14, Tryz.ntmps14
  go_wp2
  go_ret
  exact ⟨rfl, rfl⟩
def wakeJ : Jb := ⟨0, ⟨#[]⟩, 1, 0, 0, 0⟩
theorem prog_none : Prog ⟨#[]⟩ (.ok .nil [] 0) := by
  unfold Prog
  rw [if_neg (by decide)]
  exact ⟨1, rfl⟩
theorem map_wake : mapRes wakeJ [] = ([], 0) := by
  unfold mapRes
  rw [show wakeJ.prog = ⟨#[]⟩ from rfl, progOf_eq prog_none]
  decide +kernel
theorem gath_wake : gathRes wakeJ [] = (frameOf ⟨#[]⟩, 0) := by
  have h := map_wake
  have e := gath_ok (j := wakeJ) (l := []) (by rw [h]) (by rw [h]; rfl) (by rw [h]; decide +kernel)
  rw [e, h]
  rfl
theorem wakes13_any (w : World) (hE : Env w) (hH : Halves w) : Calls Tryz.prog 21 #[] w (BoolR w true) := by
  have H1 := hidM (fun W (hE : Env W) (hH : Halves W) => lgath_any wakeJ none 0 0 (.slice none 0 0) [] W ⟨none, 0, rfl, .inl rfl⟩ (by intro x hx; simp at hx) (by simp) (by decide) (by decide) hE hH)
  rw [gath_wake] at H1
  have H2 := hidM (fun W => rframe_any ⟨#[]⟩ W (by decide))
  have HN := hidM num13_any
  generalize frameOf ⟨#[]⟩ = S at H1 H2
  unfold jobV wakeJ at H1
  simp only at H1
  have hbe2 : decide (S = S) = true := decide_eq_true rfl
  go_enter Tryz.func21, Tryz.ntmps21
  go_wp2_with (first
    | (go_at_call 39; refine (H1.out _ hE hH).mono ?_; rintro e W1 ⟨rfl, hb1⟩)
    | (go_at_call 14; refine (HN.out _ _).mono ?_; rintro e W2 ⟨rfl, rfl⟩)
    | (go_at_call 40; refine (H2.out _).mono ?_; rintro e W3 ⟨rfl, hb3⟩))
  go_ret
  exact ⟨rfl, nxt hb1 hb3⟩
end Go.Proofs.YtaagllbcmgnbnaaGreatDoor
