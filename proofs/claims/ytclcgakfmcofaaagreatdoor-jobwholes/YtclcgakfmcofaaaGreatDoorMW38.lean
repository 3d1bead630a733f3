/- Texts laid together: MRGat, MROpn. -/
import Derived.Test.YtclcgakfmcofaaaGreatDoorMW26
import Derived.Test.YtclcgakfmcofaaaGreatDoorMW31
import Derived.Test.YtclcgakfmcofaaaGreatDoorMW34
import Derived.Test.YtclcgakfmcofaaaGreatDoorMW36
import Derived.Test.YtclcgakfmcofaaaGreatDoorMW33
import Derived.Test.YtclcgakfmcofaaaGreatDoorMW37
set_option linter.unusedVariables false
set_option maxRecDepth 100000
set_option maxHeartbeats 1600000
namespace Go.Proofs.YtclcgakfmcofaaaGreatDoor
open Go.RowKit
theorem gath_map {j : Jb} {l : List Rc} (h : (ap j l).2 ≠ 0) : aI j l = (⟨#[]⟩, (ap j l).2) := by unfold aI mK; rw [if_pos h]
theorem pm {j : Jb} {l : List Rc} (h : (ap j l).2 = 0) (h1 : (aB j.agg j.bound.toNat (ap j l).1).2 ≠ 0) : aI j l = (⟨#[]⟩, (aB j.agg j.bound.toNat (ap j l).1).2) := by unfold aI mK; rw [if_neg (by simpa using h), if_pos h1]
theorem gath_long {j : Jb} {l : List Rc} (h : (ap j l).2 = 0) (h1 : (aB j.agg j.bound.toNat (ap j l).1).2 = 0) (h2 : 32704 < (aF (an j.agg (aB j.agg j.bound.toNat (ap j l).1).1)).size) : aI j l = (⟨#[]⟩, 2) := by unfold aI mK; rw [if_neg (by simpa using h), if_neg (by simpa using h1), if_pos h2]
theorem gath_ok {j : Jb} {l : List Rc} (h : (ap j l).2 = 0) (h1 : (aB j.agg j.bound.toNat (ap j l).1).2 = 0) (h2 : ¬ 32704 < (aF (an j.agg (aB j.agg j.bound.toNat (ap j l).1).1)).size) : aI j l = (aF (an j.agg (aB j.agg j.bound.toNat (ap j l).1).1), 0) := by unfold aI mK; rw [if_neg (by simpa using h), if_neg (by simpa using h1), if_neg h2]
theorem rgath_any (j : Jb) (a5 : Option Addr) (n5 c5 : Nat) (u : Value) (l : List Rc) (w : World) (h : RS w u l) (hwf : Wf l) (hl : l.length ≤ 100000) (hp : j.prog.size ≤ 140737488351232) (hpos : 0 < w.heap.size) :
  Calls Tryz.prog 56 #[cJ j (.slice a5 n5 c5), u] w (ByR w (aI j l)) := by
 have hst : ∀ (W : World) (o : Obj), Below W.heap.size W (W.alloc o) := fun W o => (Below.refl _ _).alloc (Nat.le_refl _) _
 obtain ⟨W0, hW0⟩ : ∃ W0 : World, W0 = w.alloc (.cells #[.int .i64 j.id, .string j.prog, .int .i64 j.agg, .int .i64 j.bound, .int .i64 j.fuel, .slice a5 n5 c5, .int .i64 j.parts] 37) := ⟨_, rfl⟩
 have hb0 : Below w.heap.size w W0 := by rw [hW0]; exact hst _ _
 have B0 : fp W0 w.heap.size j (.slice a5 n5 c5) := by rw [hW0]; exact fp.new w _ _
 have h0 := h.below hb0
 obtain ⟨⟨G1, G2⟩, hG⟩ : ∃ G, G = aI j l := ⟨_, rfl⟩
 rw [← hG]
 have HMA := ae (rmap_any j a5 n5 c5 u l W0 h0 hl hp (by have := hb0.size; omega))
 have HB0 := ae hb0
 have HW := ae hW0.symm
 have HFA := ae (show ∀ W, Below W0.heap.size W0 W → W.cell? ⟨w.heap.size, 2, none⟩ = some (.int .i64 j.agg) ∧ W.cell? ⟨w.heap.size, 3, none⟩ = some (.int .i64 j.bound) from fun W hW => by
  obtain ⟨-, -, z2, z3, -⟩ := (B0.below hW).cells
  exact ⟨z2, z3⟩)
 obtain ⟨r0, r1, r2, r3, r4, r5, r6⟩ := B0.cells
 obtain ⟨ju, cu, rfl, -⟩ := h0
 clear hW0 B0 h hst hb0
 by_cases hm : (ap j l).2 = 0
 ·obtain ⟨gw, gwf, gk, glen⟩ := kU hwf hm
  have hR1 := fun h1 => hG.trans (pm hm h1)
  have hR2 := fun h1 h2 => hG.trans (gath_long hm h1 h2)
  have hR3 := fun h1 h2 => hG.trans (gath_ok hm h1 h2)
  obtain ⟨⟨M1, M2⟩, hM⟩ : ∃ M, M = ap j l := ⟨_, rfl⟩
  rw [← hM] at HMA hR1 hR2 hR3 gwf gk glen hm
  simp only at HMA hR1 hR2 hR3 gwf gk glen hm
  subst hm
  have HFO := ae (fun (W : World) (v : Value) (hv : RS W v M1) => oU j.agg j.bound v M1 W hv gwf (by omega) gw)
  have hfine := iv gw gk gwf (by omega)
  obtain ⟨⟨F1, F2⟩, hF⟩ : ∃ F, F = aB j.agg j.bound.toNat M1 := ⟨_, rfl⟩
  rw [← hF] at HFO hR1 hR2 hR3 hfine
  simp only at HFO hR1 hR2 hR3 hfine
  have HFI := ae hfine
  by_cases hf : F2 = 0
  ·subst hf
   rw [show fin (F1, (0 : Int)) = (F1, 0) from rfl] at HFO
   have HRB := ae (fun (W : World) (v : Value) (hv : WS W v F1) => iK j.agg j.bound v F1 W hv hfine)
   have hsz : (an j.agg F1).size ≤ 800000 := hfine.sz (m := F1) (fun r hr => hr) (Nat.le_refl _)
   obtain ⟨S, hS⟩ : ∃ S, S = an j.agg F1 := ⟨_, rfl⟩
   rw [← hS] at HRB hR2 hR3 hsz
   have HFR := ae (fun (W : World) => kc S W (by omega))
   obtain ⟨T, hT⟩ : ∃ T, T = aF S := ⟨_, rfl⟩
   rw [← hT] at HFR hR2 hR3
   by_cases hbig : 32704 < T.size
   ·have HG := ae (Prod.mk.inj (hR2 rfl hbig))
    have hd : decide ((32704 : Int) < (T.size : Int)) = true := decide_eq_true (by omega)
    clear hR1 hR2 hR3 hT hS hF hM hG hbig
    go_enter Tryz.func56, Tryz.ntmps56
    go_wp2_with (first
     | (go_at_call 55; rw [HW.out]; refine HMA.out.mono ?_; rintro e W1 ⟨⟨v1, rfl, ho1⟩, hb1⟩; have HO1 := ae ho1; obtain ⟨z2, z3⟩ := HFA.out W1 hb1; obtain ⟨a1, c1, rfl, -⟩ := id (RS.own ho1); clear ho1)
     | (go_at_call 57; refine (HFO.out _ _ (RS.own HO1.out)).mono ?_; rintro e W2 ⟨⟨v2, rfl, ho2⟩, hb2⟩; have HO2 := ae ho2; obtain ⟨z2', z3'⟩ := HFA.out W2 (ag hb1 hb2); obtain ⟨a2, c2, rfl, -⟩ := id (aQ.ws ho2); clear ho2)
     | (go_at_call 96; refine (HRB.out _ _ (aQ.ws HO2.out)).mono ?_; rintro e W3 ⟨rfl, hb3⟩)
     | (go_at_call 95; refine (HFR.out _).mono ?_; rintro e W4 ⟨rfl, hb4⟩))
    go_ret2
    exact ⟨by rw [HG.out.1, HG.out.2]; rfl, ag HB0.out (ag hb1 (ag hb2 (ag hb3 hb4)))⟩
   ·have HG := ae (Prod.mk.inj (hR3 rfl hbig))
    have hd : decide ((32704 : Int) < (T.size : Int)) = false := decide_eq_false (by omega)
    clear hR1 hR2 hR3 hT hS hF hM hG hbig
    go_enter Tryz.func56, Tryz.ntmps56
    go_wp2_with (first
     | (go_at_call 55; rw [HW.out]; refine HMA.out.mono ?_; rintro e W1 ⟨⟨v1, rfl, ho1⟩, hb1⟩; have HO1 := ae ho1; obtain ⟨z2, z3⟩ := HFA.out W1 hb1; obtain ⟨a1, c1, rfl, -⟩ := id (RS.own ho1); clear ho1)
     | (go_at_call 57; refine (HFO.out _ _ (RS.own HO1.out)).mono ?_; rintro e W2 ⟨⟨v2, rfl, ho2⟩, hb2⟩; have HO2 := ae ho2; obtain ⟨z2', z3'⟩ := HFA.out W2 (ag hb1 hb2); obtain ⟨a2, c2, rfl, -⟩ := id (aQ.ws ho2); clear ho2)
     | (go_at_call 96; refine (HRB.out _ _ (aQ.ws HO2.out)).mono ?_; rintro e W3 ⟨rfl, hb3⟩)
     | (go_at_call 95; refine (HFR.out _).mono ?_; rintro e W4 ⟨rfl, hb4⟩))
    go_ret2
    exact ⟨by rw [HG.out.1, HG.out.2]; rfl, ag HB0.out (ag hb1 (ag hb2 (ag hb3 hb4)))⟩
  ·have HG := ae (Prod.mk.inj (hR1 hf))
   have hbe : (F2 != 0) = true := by simpa using hf
   rw [show fin (F1, F2) = ([], F2) from fS hf] at HFO
   clear hR1 hR2 hR3 hF hM hG hf
   go_enter Tryz.func56, Tryz.ntmps56
   go_wp2_with (first
    | (go_at_call 55; rw [HW.out]; refine HMA.out.mono ?_; rintro e W1 ⟨⟨v1, rfl, ho1⟩, hb1⟩; have HO1 := ae ho1; obtain ⟨z2, z3⟩ := HFA.out W1 hb1; obtain ⟨a1, c1, rfl, -⟩ := id (RS.own ho1); clear ho1)
    | (go_at_call 57; refine (HFO.out _ _ (RS.own HO1.out)).mono ?_; rintro e W2 ⟨⟨v2, rfl, ho2⟩, hb2⟩; have HO2 := ae ho2; obtain ⟨z2', z3'⟩ := HFA.out W2 (ag hb1 hb2); obtain ⟨a2, c2, rfl, -⟩ := id (aQ.ws ho2); clear ho2)
    | (go_at_call 96; refine (HRB.out _ _ (aQ.ws HO2.out)).mono ?_; rintro e W3 ⟨rfl, hb3⟩)
    | (go_at_call 95; refine (HFR.out _).mono ?_; rintro e W4 ⟨rfl, hb4⟩))
   go_ret2
   exact ⟨by rw [HG.out.1, HG.out.2]; rfl, ag HB0.out (ag hb1 hb2)⟩
 ·have HG := ae (Prod.mk.inj (hG.trans (gath_map hm)))
  have hbe : ((ap j l).2 != 0) = true := by simpa using hm
  obtain ⟨⟨M1, M2⟩, hM⟩ : ∃ M, M = ap j l := ⟨_, rfl⟩
  rw [← hM] at HMA HG hbe
  simp only at HMA HG hbe
  clear hM hm hG
  go_enter Tryz.func56, Tryz.ntmps56
  go_wp2_with (first
   | (go_at_call 55; rw [HW.out]; refine HMA.out.mono ?_; rintro e W1 ⟨⟨v1, rfl, ho1⟩, hb1⟩; have HO1 := ae ho1; obtain ⟨z2, z3⟩ := HFA.out W1 hb1; obtain ⟨a1, c1, rfl, -⟩ := id (RS.own ho1); clear ho1)
   | (go_at_call 57; refine (HFO.out _ _ (RS.own HO1.out)).mono ?_; rintro e W2 ⟨⟨v2, rfl, ho2⟩, hb2⟩; have HO2 := ae ho2; obtain ⟨z2', z3'⟩ := HFA.out W2 (ag hb1 hb2); obtain ⟨a2, c2, rfl, -⟩ := id (aQ.ws ho2); clear ho2)
   | (go_at_call 96; refine (HRB.out _ _ (aQ.ws HO2.out)).mono ?_; rintro e W3 ⟨rfl, hb3⟩)
   | (go_at_call 95; refine (HFR.out _).mono ?_; rintro e W4 ⟨rfl, hb4⟩))
  go_ret2
  exact ⟨by rw [HG.out.1, HG.out.2]; rfl, ag HB0.out hb1⟩
end Go.Proofs.YtclcgakfmcofaaaGreatDoor
