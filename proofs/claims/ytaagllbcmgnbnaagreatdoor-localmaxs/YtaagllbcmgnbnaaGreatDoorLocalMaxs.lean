/- Proved: whatever ask comes in (a way, a bound, runs of rows, records, bytes), the law LocalMaxs answers true (what any program's records come to, gathered this one way, is the page's, or the error is), and the ask reads behind the call as it did before, where the seven variables at package level start as the program's text lays them (the card ties it to that text); no other condition. -/
import Derived.Test.YtaagllbcmgnbnaaGreatDoorLocalMaxsL
import Derived.Test.YtaagllbcmgnbnaaGreatDoorMB52
import Derived.Test.YtaagllbcmgnbnaaGreatDoorMB53
import Derived.Test.YtaagllbcmgnbnaaGreatDoorTie
import Derived.Test.YtaagllbcmgnbnaaGreatDoorCards
import Derived.SevenTiedAt
namespace Go.Proofs.YtaagllbcmgnbnaaGreatDoor.localMaxs
open Go.ChangeShapes Go.WideShapes Go.ChangeAt Go.RowKit
set_option linter.unusedVariables false
set_option maxRecDepth 100000
theorem and_true {a b : Bool} (h : a = true) (k : b = true) : (a && b) = true := by rw [h, k]; rfl
theorem fact1 : (Rows.localMaxsRow.wf (OpenSpec.ofChange Rows.localMaxsSpec)) = true := by kernel_rfl
theorem fact2 : (laidOutB Tryz.prog) = true := by kernel_rfl
theorem fact3 : (mapsRowed Tryz.prog) = true := by kernel_rfl
theorem fact4 : (Tryz.f8.params.all (Tryz.prog.readableRec ·)) = true := by kernel_rfl
theorem fact5 : (namedTie Tryz.prog Rows.localMaxsRow.named Rows.localMaxsSpec.vars) = true := by kernel_rfl
theorem fact6 : ((Rows.localMaxsRow.stops == [])) = true := by kernel_rfl
theorem fact7 : ((Tryz.prog.stops == [])) = true := by kernel_rfl
theorem fact8 : ((Rows.localMaxsRow.knobs == [])) = true := by kernel_rfl
theorem fact9 : ((Tryz.prog.stopKnobs == [])) = true := by kernel_rfl
theorem fact10 : ((Rows.localMaxsRow.inPlace == Tryz.prog.inPlace 8)) = true := by kernel_rfl
theorem fact11 : ((Rows.localMaxsRow.unfollowed == Tryz.prog.unfollowed 8)) = true := by kernel_rfl
theorem fact12 : ((Rows.localMaxsRow.recurses == Tryz.prog.recurses 8)) = true := by kernel_rfl
theorem fact13 : ((Rows.localMaxsRow.named == Tryz.prog.varsNamed 8)) = true := by kernel_rfl
theorem fact14 : ((Rows.localMaxsRow.maps == (Tryz.f8.params.toList ++ Rows.localMaxsSpec.plain.varTypes Tryz.prog).any (Tryz.prog.mapsRec ·))) = true := by kernel_rfl
theorem fact15 : ((Rows.localMaxsRow.ifaces == (Tryz.f8.params.toList ++ Rows.localMaxsSpec.plain.varTypes Tryz.prog).any (Tryz.prog.ifacesRec ·))) = true := by kernel_rfl
theorem fact16 : ((Rows.localMaxsRow.mapsOut == Tryz.prog.mapsAmong Tryz.f8.resultTypes.toList)) = true := by kernel_rfl
theorem fact17 : ((Rows.localMaxsRow.loops == (Tryz.f8.params.toList ++ Rows.localMaxsSpec.plain.varTypes Tryz.prog).any (Tryz.prog.loopsFrom ·))) = true := by kernel_rfl
theorem fact18 : ((Rows.localMaxsRow.wideKeys == (Tryz.f8.params.toList ++ Rows.localMaxsSpec.plain.varTypes Tryz.prog ++ Tryz.f8.resultTypes.toList).any (Tryz.prog.wideKeysFrom ·))) = true := by kernel_rfl
theorem fact19 : (Rows.localMaxsSpec.vars.all (Tryz.prog.varReadable ·)) = true := by kernel_rfl
theorem fact20 : (Tryz.f8.resultTypes.all (fun t => Tryz.prog.readableRec t && decide (t < Tryz.prog.types.size))) = true := by kernel_rfl
theorem fact21 : ((Rows.localMaxsRow.ifacesOut == Tryz.f8.resultTypes.toList.any (Tryz.prog.ifacesRec ·))) = true := by kernel_rfl
theorem fact22 : ((Rows.localMaxsRow.loopsOut == Tryz.f8.resultTypes.toList.any (Tryz.prog.loopsFrom ·))) = true := by kernel_rfl
theorem fact23 : ((Rows.localMaxsRow.plainKeys == Tryz.prog.plainKeys)) = true := by kernel_rfl
theorem fact24 : (Rows.localMaxsRow.shortTexts.isNone) = true := by kernel_rfl
theorem fact25 : (Tryz.prog.stopsHeard) = true := by kernel_rfl
theorem fact26 : (Tryz.prog.mayEnter) = true := by kernel_rfl
theorem fact27 : ((Rows.localMaxsRow.lifted == Tryz.prog.liftsFinal)) = true := by kernel_rfl
theorem fact28 : ((Tryz.prog.make == some Rows.localMaxsRow.make)) = true := by kernel_rfl
theorem fact29 : ((Rows.localMaxsRow.kinds == (if Rows.localMaxsRow.domain.isEmpty then [] else Tryz.f8.params.toList.map fun t => match Tryz.prog.underlying t with | some (.int k) => some k | _ => none))) = true := by kernel_rfl
theorem fact30 : ((Rows.localMaxsRow.pinned == Rows.localMaxsRow.pinnedBy)) = true := by kernel_rfl
theorem fact31 : ((Rows.localMaxsRow.veiled == (Tryz.f8.params.toList ++ Rows.localMaxsSpec.plain.varTypes Tryz.prog ++ Tryz.f8.resultTypes.toList).any (Tryz.prog.veiledRec ·))) = true := by kernel_rfl
theorem fact32 : (Rows.localMaxsRow.veiledFits Tryz.prog Tryz.f8.params.toList (Tryz.f8.params.toList ++ Rows.localMaxsSpec.plain.varTypes Tryz.prog ++ Tryz.f8.resultTypes.toList)) = true := by kernel_rfl
theorem facts : joinedFacts Tryz.prog 8 Tryz.f8 Rows.localMaxsSpec Rows.localMaxsRow = true := by
  unfold joinedFacts
  exact and_true (and_true (and_true (and_true (and_true (and_true (and_true (and_true (and_true (and_true (and_true (and_true (and_true (and_true (and_true (and_true (and_true (and_true (and_true (and_true (and_true (and_true (and_true (and_true (and_true (and_true (and_true (and_true (and_true (and_true (and_true (fact1) fact2) fact3) fact4) fact5) fact6) fact7) fact8) fact9) fact10) fact11) fact12) fact13) fact14) fact15) fact16) fact17) fact18) fact19) fact20) fact21) fact22) fact23) fact24) fact25) fact26) fact27) fact28) fact29) fact30) fact31) fact32
theorem over : Rows.LocalMaxsSaid :=
  OpenClaim.holds_of_wide 8 Tryz.f8 rfl rfl rfl rfl rfl rfl rfl ⟨rfl, rfl, rfl, rfl, rfl⟩ rfl rfl rfl rfl rfl (by kernel_rfl) Tryz.func8 facts
    (of_decide_eq_true (by kernel_rfl)) (by unfold Func.isWrapper; first | (rw [if_pos (by decide +kernel)]; kernel_rfl) | (rw [if_neg (by decide +kernel)]; exact ⟨rfl, rfl⟩))
    (fun os started H enc _ => lifted os started H enc)

end Go.Proofs.YtaagllbcmgnbnaaGreatDoor.localMaxs
namespace Go.Proofs.YtaagllbcmgnbnaaGreatDoor
open Go
theorem localMaxs_holds : Rows.LocalMaxsCardSaid :=
  Claim7.holds_tied_plain_at .later [] [.data, .data, .data, .data, .sentinel, .sentinel, .data] true Rows.localMaxsCard.stood.harness true
    localMaxs.over (fun _ h => by cases h) (by kernel_rfl) (fun _ h => by cases h) localMaxs_row_tie rfl ⟨rfl, rfl⟩ (by kernel_rfl) rfl
    (fun f fn hf hfn => by
      obtain rfl : f = 8 := Option.some.inj ((show Tryz.prog.funcNamed "thresher/thresherlaw13.LocalMaxs" = some 8 by kernel_rfl).symm.trans hf) |>.symm
      obtain rfl : fn = Tryz.f8 := (Option.some.inj (Tryz.func8.symm.trans hfn)).symm
      exact ⟨by kernel_rfl, fun j t ht => by
        rw [Tryz.params8] at ht
        have h3 : t = 59 := by
          rcases j with _ | j
          · simpa using ht.symm
          · simp at ht
        subst h3
        exact (show Tryz.prog.wantsStandIn 59 = false by kernel_rfl)⟩)
    (by kernel_rfl)
#print axioms localMaxs_holds
end Go.Proofs.YtaagllbcmgnbnaaGreatDoor
