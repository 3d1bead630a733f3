/- Texts laid together: NGat, NRun, MContr, MLaw. -/
import Derived.Test.YtaagllbcmgnbnaaGreatDoorMB41
import Derived.Test.YtaagllbcmgnbnaaGreatDoorMB30
import Derived.Test.YtaagllbcmgnbnaaGreatDoorMB37
import Derived.Test.YtaagllbcmgnbnaaGreatDoorMB43
import Derived.Test.YtaagllbcmgnbnaaGreatDoorMB36
import Derived.Test.YtaagllbcmgnbnaaGreatDoorMB38
/- local: Gather, Open, Runs. -/
namespace Go.Proofs.YtaagllbcmgnbnaaGreatDoor
open Go.RowKit
set_option linter.unusedVariables false
set_option maxRecDepth 100000

theorem foldRes_may {agg bound : Int} {l : List Rc} (hw : wayC agg bound = true) (hl : l.length ≤ 1536) (hk : keysOk l = true) : foldRes agg bound l = fin (foldR agg bound.toNat l) := by
  unfold foldRes
  rw [hw, hk, decide_eq_true hl]
  rfl
set_option maxHeartbeats 3200000 in
theorem lgath_any (j : Jb) (a5 : Option Addr) (n5 c5 : Nat) (u : Value) (l : List Rc) (w : World) (h : RS w u l) (hwf : Wf l) (hl : l.length ≤ 100000) (hp : j.prog.size ≤ 140737488351232) (hf : -9223372036854775808 ≤ j.fuel ∧ j.fuel ≤ 9223372036854775807) (hE : Env w) (hH : Halves w) :
    Calls Tryz.prog 39 #[jobV j (.slice a5 n5 c5), u] w (ByR w (gathRes j l)) := by
  have hst : ∀ (W : World) (o : Obj), Below W.heap.size W (W.alloc o) := fun W o => (Below.refl _ _).alloc (Nat.le_refl _) _
  obtain ⟨W0, hW0⟩ : ∃ W0 : World, W0 = w.alloc (.cells #[.int .i64 j.id, .string j.prog, .int .i64 j.agg, .int .i64 j.bound, .int .i64 j.fuel, .slice a5 n5 c5, .int .i64 j.parts] 51) := ⟨_, rfl⟩
  have hb0 : Below w.heap.size w W0 := by rw [hW0]; exact hst _ _
  have B0 : BlkJ W0 w.heap.size j (.slice a5 n5 c5) := by rw [hW0]; exact BlkJ.new w _ _
  have h0 := h.below hb0
  obtain ⟨⟨G1, G2⟩, hG⟩ : ∃ G, G = gathRes j l := ⟨_, rfl⟩
  rw [← hG]
  have HMA := hidM (lmap_any j a5 n5 c5 u l W0 h0 hwf hl hp hf (hE.low hb0))
  have HB0 := hidM hb0
  have HW := hidM hW0.symm
  have HHV := hidM (fun (W : World) (hW : Below W0.heap.size W0 W) => (hH.below hb0 hH.pos).below hW (by have := hH.pos; have := hb0.size; omega))
  have HFA := hidM (show ∀ W, Below W0.heap.size W0 W → W.cell? ⟨w.heap.size, 2, none⟩ = some (.int .i64 j.agg) ∧ W.cell? ⟨w.heap.size, 3, none⟩ = some (.int .i64 j.bound) from fun W hW => by
    obtain ⟨-, -, z2, z3, -⟩ := (B0.below hW).cells
    exact ⟨z2, z3⟩)
  obtain ⟨r0, r1, r2, r3, r4, r5, r6⟩ := B0.cells
  obtain ⟨ju, cu, rfl, -⟩ := h0
  clear hW0 B0 h hst hb0 hE hH
  by_cases hm : (mapRes j l).2 = 0
  · obtain ⟨gw, gwf, gk, glen⟩ := mapRes_ok hwf hm
    have hR1 := fun h1 => hG.trans (gath_fold hm h1)
    have hR2 := fun h1 h2 => hG.trans (gath_long hm h1 h2)
    have hR3 := fun h1 h2 => hG.trans (gath_ok hm h1 h2)
    obtain ⟨⟨M1, M2⟩, hM⟩ : ∃ M, M = mapRes j l := ⟨_, rfl⟩
    rw [← hM] at HMA hR1 hR2 hR3 gwf gk glen hm
    simp only at HMA hR1 hR2 hR3 gwf gk glen hm
    subst hm
    have HFO := hidM (fun (W : World) (v : Value) (hv : RS W v M1) => fold_any j.agg j.bound v M1 W hv gwf (by omega))
    rw [foldRes_may gw (by omega) gk] at HFO
    have hfine := fine_fold gw gk gwf (by omega)
    obtain ⟨⟨F1, F2⟩, hF⟩ : ∃ F, F = foldR j.agg j.bound.toNat M1 := ⟨_, rfl⟩
    rw [← hF] at HFO hR1 hR2 hR3 hfine
    simp only at HFO hR1 hR2 hR3 hfine
    by_cases hf2 : F2 = 0
    · subst hf2
      rw [show fin (F1, (0 : Int)) = (F1, 0) from rfl] at HFO
      have HRB := hidM (fun (W : World) (v : Value) (hv : WS W v F1) (hc : CapOk v) => rbytes_ok j.agg j.bound v F1 W hv hc hfine)
      obtain ⟨S, hS⟩ : ∃ S, S = rowsBy j.agg F1 := ⟨_, rfl⟩
      rw [← hS] at HRB hR2 hR3
      have hfs := frame_size S
      by_cases hs8 : 32768 < S.size
      · have HFB := hidM (fun (W : World) => fbytes_big S W hs8)
        have HG := hidM (Prod.mk.inj (hR2 rfl (by omega)))
        clear hR1 hR2 hR3 hF hS hs8 hfs hfine hM hG
        go_enter Tryz.func39, Tryz.ntmps39
        go_wp2_with (first
          | (go_at_call 61; rw [HW.out]; refine HMA.out.mono ?_; rintro e W1 ⟨⟨v1, rfl, ho1⟩, hb1⟩; have HO1 := hidM ho1; obtain ⟨z2, z3⟩ := HFA.out W1 hb1; obtain ⟨a1, c1, rfl, -⟩ := id (RS.own ho1); clear ho1)
          | (go_at_call 30; refine (HFO.out _ _ (RS.own HO1.out)).mono ?_; rintro e W2 ⟨⟨v2, rfl, ho2⟩, hb2⟩; have HO2 := hidM ho2; obtain ⟨z2', z3'⟩ := HFA.out W2 (nxt hb1 hb2); obtain ⟨a2, c2, rfl, -⟩ := id (OwnW.ws ho2); clear ho2)
          | (go_at_call 62; refine (HRB.out _ _ (OwnW.ws HO2.out) (OwnW.cap HO2.out)).mono ?_; rintro e W3 ⟨rfl, hb3⟩)
          | (go_at_call 63; refine (HFB.out _).mono ?_; rintro e W4 ⟨rfl, hw4⟩; subst hw4))
        go_ret2
        exact ⟨by rw [HG.out.1, HG.out.2]; rfl, nxt HB0.out (nxt hb1 (nxt hb2 hb3))⟩
      · have hs8' : S.size ≤ 32768 := by omega
        have HFB := hidM (fun (W : World) (hW : Halves W) => fbytes_ok S W hs8' hW)
        obtain ⟨T, hT⟩ : ∃ T, T = frameOf S := ⟨_, rfl⟩
        rw [← hT] at HFB hR2 hR3 hfs
        by_cases hbig : 32704 < T.size
        · have HG := hidM (Prod.mk.inj (hR2 rfl hbig))
          have hd : decide ((32704 : Int) < (T.size : Int)) = true := decide_eq_true (by omega)
          have hd1 : (32704 : Int) < (T.size : Int) := by omega
          clear hR1 hR2 hR3 hF hS hs8 hs8' hfs hfine hM hG hT hbig
          go_enter Tryz.func39, Tryz.ntmps39
          go_wp2_with (first
            | (go_at_call 61; rw [HW.out]; refine HMA.out.mono ?_; rintro e W1 ⟨⟨v1, rfl, ho1⟩, hb1⟩; have HO1 := hidM ho1; obtain ⟨z2, z3⟩ := HFA.out W1 hb1; obtain ⟨a1, c1, rfl, -⟩ := id (RS.own ho1); clear ho1)
            | (go_at_call 30; refine (HFO.out _ _ (RS.own HO1.out)).mono ?_; rintro e W2 ⟨⟨v2, rfl, ho2⟩, hb2⟩; have HO2 := hidM ho2; obtain ⟨z2', z3'⟩ := HFA.out W2 (nxt hb1 hb2); obtain ⟨a2, c2, rfl, -⟩ := id (OwnW.ws ho2); clear ho2)
            | (go_at_call 62; refine (HRB.out _ _ (OwnW.ws HO2.out) (OwnW.cap HO2.out)).mono ?_; rintro e W3 ⟨rfl, hb3⟩; have HV3 := HHV.out W3 (nxt hb1 (nxt hb2 hb3)))
            | (go_at_call 63; refine (HFB.out _ HV3).mono ?_; rintro e W4 ⟨rfl, hb4⟩))
          go_ret2
          exact ⟨by rw [HG.out.1, HG.out.2]; rfl, nxt HB0.out (nxt hb1 (nxt hb2 (nxt hb3 hb4)))⟩
        · have HG := hidM (Prod.mk.inj (hR3 rfl hbig))
          have hd : decide ((32704 : Int) < (T.size : Int)) = false := decide_eq_false (by omega)
          have hd1 : ¬ (32704 : Int) < (T.size : Int) := by omega
          clear hR1 hR2 hR3 hF hS hs8 hs8' hfs hfine hM hG hT hbig
          go_enter Tryz.func39, Tryz.ntmps39
          go_wp2_with (first
            | (go_at_call 61; rw [HW.out]; refine HMA.out.mono ?_; rintro e W1 ⟨⟨v1, rfl, ho1⟩, hb1⟩; have HO1 := hidM ho1; obtain ⟨z2, z3⟩ := HFA.out W1 hb1; obtain ⟨a1, c1, rfl, -⟩ := id (RS.own ho1); clear ho1)
            | (go_at_call 30; refine (HFO.out _ _ (RS.own HO1.out)).mono ?_; rintro e W2 ⟨⟨v2, rfl, ho2⟩, hb2⟩; have HO2 := hidM ho2; obtain ⟨z2', z3'⟩ := HFA.out W2 (nxt hb1 hb2); obtain ⟨a2, c2, rfl, -⟩ := id (OwnW.ws ho2); clear ho2)
            | (go_at_call 62; refine (HRB.out _ _ (OwnW.ws HO2.out) (OwnW.cap HO2.out)).mono ?_; rintro e W3 ⟨rfl, hb3⟩; have HV3 := HHV.out W3 (nxt hb1 (nxt hb2 hb3)))
            | (go_at_call 63; refine (HFB.out _ HV3).mono ?_; rintro e W4 ⟨rfl, hb4⟩))
          go_ret2
          exact ⟨by rw [HG.out.1, HG.out.2]; rfl, nxt HB0.out (nxt hb1 (nxt hb2 (nxt hb3 hb4)))⟩
    · have HG := hidM (Prod.mk.inj (hR1 hf2))
      have hbe : (F2 != 0) = true := by simpa using hf2
      rw [show fin (F1, F2) = ([], F2) from fin_bad hf2] at HFO
      clear hR1 hR2 hR3 hF hM hG hf2 hfine
      go_enter Tryz.func39, Tryz.ntmps39
      go_wp2_with (first
        | (go_at_call 61; rw [HW.out]; refine HMA.out.mono ?_; rintro e W1 ⟨⟨v1, rfl, ho1⟩, hb1⟩; have HO1 := hidM ho1; obtain ⟨z2, z3⟩ := HFA.out W1 hb1; obtain ⟨a1, c1, rfl, -⟩ := id (RS.own ho1); clear ho1)
        | (go_at_call 30; refine (HFO.out _ _ (RS.own HO1.out)).mono ?_; rintro e W2 ⟨⟨v2, rfl, ho2⟩, hb2⟩; have HO2 := hidM ho2; obtain ⟨z2', z3'⟩ := HFA.out W2 (nxt hb1 hb2); obtain ⟨a2, c2, rfl, -⟩ := id (OwnW.ws ho2); clear ho2))
      go_ret2
      exact ⟨by rw [HG.out.1, HG.out.2]; rfl, nxt HB0.out (nxt hb1 hb2)⟩
  · have HG := hidM (Prod.mk.inj (hG.trans (gath_map hm)))
    have hbe : ((mapRes j l).2 != 0) = true := by simpa using hm
    obtain ⟨⟨M1, M2⟩, hM⟩ : ∃ M, M = mapRes j l := ⟨_, rfl⟩
    rw [← hM] at HMA HG hbe
    simp only at HMA HG hbe
    clear hM hm hG
    go_enter Tryz.func39, Tryz.ntmps39
    go_wp2_with (go_at_call 61; rw [HW.out]; refine HMA.out.mono ?_; rintro e W1 ⟨⟨v1, rfl, ho1⟩, hb1⟩; have HO1 := hidM ho1; obtain ⟨z2, z3⟩ := HFA.out W1 hb1; obtain ⟨a1, c1, rfl, -⟩ := id (RS.own ho1); clear ho1)
    go_ret2
    exact ⟨by rw [HG.out.1, HG.out.2]; rfl, nxt HB0.out hb1⟩
set_option maxHeartbeats 1600000 in
theorem lopen_any (j : Jb) (a5 : Option Addr) (n5 c5 : Nat) (s : ByteArray) (w : World) (hs : s.size ≤ 100000) (hH : Halves w) :
    Calls Tryz.prog 73 #[jobV j (.slice a5 n5 c5), .string s] w (RowsR w w.heap.size (openRes j.agg j.bound s)) := by
  have hst : ∀ (W : World) (o : Obj), Below W.heap.size W (W.alloc o) := fun W o => (Below.refl _ _).alloc (Nat.le_refl _) _
  obtain ⟨W0, hW0⟩ : ∃ W0 : World, W0 = w.alloc (.cells #[.int .i64 j.id, .string j.prog, .int .i64 j.agg, .int .i64 j.bound, .int .i64 j.fuel, .slice a5 n5 c5, .int .i64 j.parts] 51) := ⟨_, rfl⟩
  have hb0 : Below w.heap.size w W0 := by rw [hW0]; exact hst _ _
  have B0 : BlkJ W0 w.heap.size j (.slice a5 n5 c5) := by rw [hW0]; exact BlkJ.new w _ _
  have H0 := hidM (rcheck_any j.agg j.bound (.slice none 0 0) [] W0 ⟨none, 0, rfl, .inl rfl⟩ (by simp) (by simp) (Nat.le_refl _))
  have hok0 : okRows j.agg j.bound [] = wayC j.agg j.bound := by unfold okRows; simp
  rw [hok0] at H0
  have HTK := hidM (fun (W : World) (hW : Below W0.heap.size W0 W) => ftake_any s W hs ((hH.below hb0 hH.pos).below hW (by have := hH.pos; have := hb0.size; omega)))
  unfold TakePost at HTK
  have HB0 := hidM hb0
  have HW := hidM hW0.symm
  have HFA := hidM (show ∀ W, Below W0.heap.size W0 W → W.cell? ⟨w.heap.size, 2, none⟩ = some (.int .i64 j.agg) ∧ W.cell? ⟨w.heap.size, 3, none⟩ = some (.int .i64 j.bound) from fun W hW => by
    obtain ⟨-, -, z2, z3, -⟩ := (B0.below hW).cells
    exact ⟨z2, z3⟩)
  obtain ⟨r0, r1, r2, r3, r4, r5, r6⟩ := B0.cells
  clear hW0 B0 hst hb0 hH hok0
  unfold openRes
  cases hw : wayC j.agg j.bound with
  | false =>
    rw [hw, show errC false = 1 from rfl] at H0
    rw [if_neg (by decide)]
    go_enter Tryz.func73, Tryz.ntmps73
    go_wp2_with (go_at_call 52; rw [HW.out]; refine H0.out.mono ?_; rintro e W1 ⟨rfl, hb1⟩)
    go_ret2
    exact ⟨⟨_, rfl, OwnW.nil _ _⟩, nxt HB0.out hb1⟩
  | true =>
    rw [hw, show errC true = 0 from rfl] at H0
    rw [if_pos rfl]
    have hR1 := fun h => openP_err (agg := j.agg) (bound := j.bound) (s := s) h
    have hR2 := fun h h1 => openP_left (agg := j.agg) (bound := j.bound) (s := s) h h1
    have hR3 := fun h h1 => openP_rows (agg := j.agg) (bound := j.bound) (s := s) h h1
    obtain ⟨⟨G1, G2⟩, hG⟩ : ∃ G, G = openP j.agg j.bound s := ⟨_, rfl⟩
    rw [← hG] at hR1 hR2 hR3 ⊢
    have hts := fTake_size s
    obtain ⟨⟨t, n, er⟩, hT⟩ : ∃ T, T = fTake s := ⟨_, rfl⟩
    rw [← hT] at HTK hR1 hR2 hR3 hts
    simp only at HTK hR1 hR2 hR3 hts
    clear hT hG
    by_cases he : er = 0
    · subst he
      by_cases hl : n < (s.size : Int)
      · have HG := hidM (Prod.mk.inj (hR2 rfl hl))
        have hd : decide (n < (s.size : Int)) = true := decide_eq_true hl
        clear hR1 hR2 hR3 hl
        go_enter Tryz.func73, Tryz.ntmps73
        go_wp2_with (first
          | (go_at_call 52; rw [HW.out]; refine H0.out.mono ?_; rintro e W1 ⟨rfl, hb1⟩; obtain ⟨y2, y3⟩ := HFA.out W1 hb1)
          | (go_at_call 105; refine (HTK.out _ hb1).mono ?_; rintro e W2 ⟨rfl, hb2⟩; obtain ⟨z2, z3⟩ := HFA.out W2 (nxt hb1 hb2)))
        go_ret2
        exact ⟨⟨_, by rw [HG.out.2]; rfl, by rw [HG.out.1]; exact OwnW.nil _ _⟩, nxt HB0.out (nxt hb1 hb2)⟩
      · have hd : decide (n < (s.size : Int)) = false := decide_eq_false hl
        have hR := hR3 rfl hl
        have HRT := hidM (fun W => rowTake_any j.agg j.bound t W (by omega))
        unfold takesRes at HRT
        rw [if_pos hw, ← hR] at HRT
        clear hR1 hR2 hR3 hl hR
        go_enter Tryz.func73, Tryz.ntmps73
        go_wp2_with (first
          | (go_at_call 52; rw [HW.out]; refine H0.out.mono ?_; rintro e W1 ⟨rfl, hb1⟩; obtain ⟨y2, y3⟩ := HFA.out W1 hb1)
          | (go_at_call 105; refine (HTK.out _ hb1).mono ?_; rintro e W2 ⟨rfl, hb2⟩; obtain ⟨z2, z3⟩ := HFA.out W2 (nxt hb1 hb2))
          | (go_at_call 106; refine (HRT.out _).mono ?_; rintro e W3 ⟨⟨v2, rfl, ho2⟩, hb3⟩))
        go_ret2
        exact ⟨⟨_, rfl, ho2.lower (nxt HB0.out (nxt hb1 hb2)).size⟩, nxt HB0.out (nxt hb1 (nxt hb2 hb3))⟩
    · have HG := hidM (Prod.mk.inj (hR1 he))
      have hbe : (er != 0) = true := by simpa using he
      clear hR1 hR2 hR3 he
      go_enter Tryz.func73, Tryz.ntmps73
      go_wp2_with (first
        | (go_at_call 52; rw [HW.out]; refine H0.out.mono ?_; rintro e W1 ⟨rfl, hb1⟩; obtain ⟨y2, y3⟩ := HFA.out W1 hb1)
        | (go_at_call 105; refine (HTK.out _ hb1).mono ?_; rintro e W2 ⟨rfl, hb2⟩; obtain ⟨z2, z3⟩ := HFA.out W2 (nxt hb1 hb2)))
      go_ret2
      exact ⟨⟨_, by rw [HG.out.2]; rfl, by rw [HG.out.1]; exact OwnW.nil _ _⟩, nxt HB0.out (nxt hb1 hb2)⟩
end Go.Proofs.YtaagllbcmgnbnaaGreatDoor
/- local: Runs. -/
namespace Go.Proofs.YtaagllbcmgnbnaaGreatDoor
open Go.RowKit
set_option linter.unusedVariables false
set_option maxRecDepth 100000

theorem RS.rest {w : World} {b off cap : Nat} {l : List Rc} (h : RS w (.slice (some ⟨b, off, none⟩) l.length cap) l) (i : Nat) (hi : i < l.length) (cap' : Nat) : RS w (.slice (some ⟨b, off + i * 3, none⟩) (l.drop i).length cap') (l.drop i) := by
  have := h.sub i l.length cap' hi
  rwa [List.take_of_length_le (by simp)] at this
end Go.Proofs.YtaagllbcmgnbnaaGreatDoor
/- The program's own contracts of stage 13, gathered: local.Map, Gather, Open, Runs, Merge (NMap, NGat, NRun, NMrg). -/
namespace Go.Proofs.YtaagllbcmgnbnaaGreatDoor
end Go.Proofs.YtaagllbcmgnbnaaGreatDoor
/- What stage 13's laws call: num, wakes. -/
namespace Go.Proofs.YtaagllbcmgnbnaaGreatDoor
open Go.RowKit
set_option linter.unusedVariables false
set_option maxRecDepth 100000

theorem num13_any (e : Int) (w : World) : Calls Tryz.prog 14 #[.int .i64 e] w fun r w' => r = .returned (.int .i64 e) ∧ w' = w := by
  go_enter Tryz.func14, Tryz.ntmps14
  go_wp2
  go_ret
  exact ⟨rfl, rfl⟩
def wakeJ : Jb := ⟨0, ⟨#[]⟩, 1, 0, 0, 0⟩
theorem prog_none : Prog ⟨#[]⟩ (.ok .nil [] 0) := by
  unfold Prog
  rw [if_neg (by decide)]
  exact ⟨1, rfl⟩
theorem map_wake : mapRes wakeJ [] = ([], 0) := by
  unfold mapRes
  rw [show wakeJ.prog = ⟨#[]⟩ from rfl, progOf_eq prog_none]
  decide +kernel
theorem gath_wake : gathRes wakeJ [] = (frameOf ⟨#[]⟩, 0) := by
  have h := map_wake
  have e := gath_ok (j := wakeJ) (l := []) (by rw [h]) (by rw [h]; rfl) (by rw [h]; decide +kernel)
  rw [e, h]
  rfl
theorem wakes13_any (w : World) (hE : Env w) (hH : Halves w) : Calls Tryz.prog 21 #[] w (BoolR w true) := by
  have H1 := hidM (fun W (hE : Env W) (hH : Halves W) => lgath_any wakeJ none 0 0 (.slice none 0 0) [] W ⟨none, 0, rfl, .inl rfl⟩ (by intro x hx; simp at hx) (by simp) (by decide) (by decide) hE hH)
  rw [gath_wake] at H1
  have H2 := hidM (fun W => rframe_any ⟨#[]⟩ W (by decide))
  have HN := hidM num13_any
  generalize frameOf ⟨#[]⟩ = S at H1 H2
  unfold jobV wakeJ at H1
  simp only at H1
  have hbe2 : decide (S = S) = true := decide_eq_true rfl
  go_enter Tryz.func21, Tryz.ntmps21
  go_wp2_with (first
    | (go_at_call 39; refine (H1.out _ hE hH).mono ?_; rintro e W1 ⟨rfl, hb1⟩)
    | (go_at_call 14; refine (HN.out _ _).mono ?_; rintro e W2 ⟨rfl, rfl⟩)
    | (go_at_call 40; refine (H2.out _).mono ?_; rintro e W3 ⟨rfl, hb3⟩))
  go_ret
  exact ⟨rfl, nxt hb1 hb3⟩
end Go.Proofs.YtaagllbcmgnbnaaGreatDoor
