/- Proved: whatever ask comes in (a way, a bound, runs of rows, records, bytes), the law LocalMins answers true (what any program's records come to, gathered this one way, is the page's, or the error is), and the ask reads behind the call as it did before, where the seven variables at package level start as the program's text lays them (the card ties it to that text); no other condition. -/
import Derived.Test.YtaagllbcmgnbnaaGreatDoorLocalMinsL
import Derived.Test.YtaagllbcmgnbnaaGreatDoorMB52
import Derived.Test.YtaagllbcmgnbnaaGreatDoorMB53
import Derived.Test.YtaagllbcmgnbnaaGreatDoorTie
import Derived.Test.YtaagllbcmgnbnaaGreatDoorCards
import Derived.SevenTiedAt
namespace Go.Proofs.YtaagllbcmgnbnaaGreatDoor.localMins
open Go.ChangeShapes Go.WideShapes Go.ChangeAt Go.RowKit
set_option linter.unusedVariables false
set_option maxRecDepth 100000
theorem and_true {a b : Bool} (h : a = true) (k : b = true) : (a && b) = true := by rw [h, k]; rfl
theorem fact1 : (Rows.localMinsRow.wf (OpenSpec.ofChange Rows.localMinsSpec)) = true := by kernel_rfl
theorem fact2 : (laidOutB Tryz.prog) = true := by kernel_rfl
theorem fact3 : (mapsRowed Tryz.prog) = true := by kernel_rfl
theorem fact4 : (Tryz.f7.params.all (Tryz.prog.readableRec ·)) = true := by kernel_rfl
theorem fact5 : (namedTie Tryz.prog Rows.localMinsRow.named Rows.localMinsSpec.vars) = true := by kernel_rfl
theorem fact6 : ((Rows.localMinsRow.stops == [])) = true := by kernel_rfl
theorem fact7 : ((Tryz.prog.stops == [])) = true := by kernel_rfl
theorem fact8 : ((Rows.localMinsRow.knobs == [])) = true := by kernel_rfl
theorem fact9 : ((Tryz.prog.stopKnobs == [])) = true := by kernel_rfl
theorem fact10 : ((Rows.localMinsRow.inPlace == Tryz.prog.inPlace 7)) = true := by kernel_rfl
theorem fact11 : ((Rows.localMinsRow.unfollowed == Tryz.prog.unfollowed 7)) = true := by kernel_rfl
theorem fact12 : ((Rows.localMinsRow.recurses == Tryz.prog.recurses 7)) = true := by kernel_rfl
theorem fact13 : ((Rows.localMinsRow.named == Tryz.prog.varsNamed 7)) = true := by kernel_rfl
theorem fact14 : ((Rows.localMinsRow.maps == (Tryz.f7.params.toList ++ Rows.localMinsSpec.plain.varTypes Tryz.prog).any (Tryz.prog.mapsRec ·))) = true := by kernel_rfl
theorem fact15 : ((Rows.localMinsRow.ifaces == (Tryz.f7.params.toList ++ Rows.localMinsSpec.plain.varTypes Tryz.prog).any (Tryz.prog.ifacesRec ·))) = true := by kernel_rfl
theorem fact16 : ((Rows.localMinsRow.mapsOut == Tryz.prog.mapsAmong Tryz.f7.resultTypes.toList)) = true := by kernel_rfl
theorem fact17 : ((Rows.localMinsRow.loops == (Tryz.f7.params.toList ++ Rows.localMinsSpec.plain.varTypes Tryz.prog).any (Tryz.prog.loopsFrom ·))) = true := by kernel_rfl
theorem fact18 : ((Rows.localMinsRow.wideKeys == (Tryz.f7.params.toList ++ Rows.localMinsSpec.plain.varTypes Tryz.prog ++ Tryz.f7.resultTypes.toList).any (Tryz.prog.wideKeysFrom ·))) = true := by kernel_rfl
theorem fact19 : (Rows.localMinsSpec.vars.all (Tryz.prog.varReadable ·)) = true := by kernel_rfl
theorem fact20 : (Tryz.f7.resultTypes.all (fun t => Tryz.prog.readableRec t && decide (t < Tryz.prog.types.size))) = true := by kernel_rfl
theorem fact21 : ((Rows.localMinsRow.ifacesOut == Tryz.f7.resultTypes.toList.any (Tryz.prog.ifacesRec ·))) = true := by kernel_rfl
theorem fact22 : ((Rows.localMinsRow.loopsOut == Tryz.f7.resultTypes.toList.any (Tryz.prog.loopsFrom ·))) = true := by kernel_rfl
theorem fact23 : ((Rows.localMinsRow.plainKeys == Tryz.prog.plainKeys)) = true := by kernel_rfl
theorem fact24 : (Rows.localMinsRow.shortTexts.isNone) = true := by kernel_rfl
theorem fact25 : (Tryz.prog.stopsHeard) = true := by kernel_rfl
theorem fact26 : (Tryz.prog.mayEnter) = true := by kernel_rfl
theorem fact27 : ((Rows.localMinsRow.lifted == Tryz.prog.liftsFinal)) = true := by kernel_rfl
theorem fact28 : ((Tryz.prog.make == some Rows.localMinsRow.make)) = true := by kernel_rfl
theorem fact29 : ((Rows.localMinsRow.kinds == (if Rows.localMinsRow.domain.isEmpty then [] else Tryz.f7.params.toList.map fun t => match Tryz.prog.underlying t with | some (.int k) => some k | _ => none))) = true := by kernel_rfl
theorem fact30 : ((Rows.localMinsRow.pinned == Rows.localMinsRow.pinnedBy)) = true := by kernel_rfl
theorem fact31 : ((Rows.localMinsRow.veiled == (Tryz.f7.params.toList ++ Rows.localMinsSpec.plain.varTypes Tryz.prog ++ Tryz.f7.resultTypes.toList).any (Tryz.prog.veiledRec ·))) = true := by kernel_rfl
theorem fact32 : (Rows.localMinsRow.veiledFits Tryz.prog Tryz.f7.params.toList (Tryz.f7.params.toList ++ Rows.localMinsSpec.plain.varTypes Tryz.prog ++ Tryz.f7.resultTypes.toList)) = true := by kernel_rfl
theorem facts : joinedFacts Tryz.prog 7 Tryz.f7 Rows.localMinsSpec Rows.localMinsRow = true := by
  unfold joinedFacts
  exact and_true (and_true (and_true (and_true (and_true (and_true (and_true (and_true (and_true (and_true (and_true (and_true (and_true (and_true (and_true (and_true (and_true (and_true (and_true (and_true (and_true (and_true (and_true (and_true (and_true (and_true (and_true (and_true (and_true (and_true (and_true (fact1) fact2) fact3) fact4) fact5) fact6) fact7) fact8) fact9) fact10) fact11) fact12) fact13) fact14) fact15) fact16) fact17) fact18) fact19) fact20) fact21) fact22) fact23) fact24) fact25) fact26) fact27) fact28) fact29) fact30) fact31) fact32
theorem over : Rows.LocalMinsSaid :=
  OpenClaim.holds_of_wide 7 Tryz.f7 rfl rfl rfl rfl rfl rfl rfl ⟨rfl, rfl, rfl, rfl, rfl⟩ rfl rfl rfl rfl rfl (by kernel_rfl) Tryz.func7 facts
    (of_decide_eq_true (by kernel_rfl)) (by unfold Func.isWrapper; first | (rw [if_pos (by decide +kernel)]; kernel_rfl) | (rw [if_neg (by decide +kernel)]; exact ⟨rfl, rfl⟩))
    (fun os started H enc _ => lifted os started H enc)

end Go.Proofs.YtaagllbcmgnbnaaGreatDoor.localMins
namespace Go.Proofs.YtaagllbcmgnbnaaGreatDoor
open Go
theorem localMins_holds : Rows.LocalMinsCardSaid :=
  Claim7.holds_tied_plain_at .later [] [.data, .data, .data, .data, .sentinel, .sentinel, .data] true Rows.localMinsCard.stood.harness true
    localMins.over (fun _ h => by cases h) (by kernel_rfl) (fun _ h => by cases h) localMins_row_tie rfl ⟨rfl, rfl⟩ (by kernel_rfl) rfl
    (fun f fn hf hfn => by
      obtain rfl : f = 7 := Option.some.inj ((show Tryz.prog.funcNamed "thresher/thresherlaw13.LocalMins" = some 7 by kernel_rfl).symm.trans hf) |>.symm
      obtain rfl : fn = Tryz.f7 := (Option.some.inj (Tryz.func7.symm.trans hfn)).symm
      exact ⟨by kernel_rfl, fun j t ht => by
        rw [Tryz.params7] at ht
        have h3 : t = 59 := by
          rcases j with _ | j
          · simpa using ht.symm
          · simp at ht
        subst h3
        exact (show Tryz.prog.wantsStandIn 59 = false by kernel_rfl)⟩)
    (by kernel_rfl)
#print axioms localMins_holds
end Go.Proofs.YtaagllbcmgnbnaaGreatDoor
