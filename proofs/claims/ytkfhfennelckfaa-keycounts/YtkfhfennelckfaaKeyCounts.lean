/- Proved: whatever ask comes in (keys, and bytes), the law KeyCounts answers true (in whatever order keys come they are counted alike; all counts together are how many there are; sorted, each stands not below the one ahead of it), and the ask reads behind the call as it did before; no condition. -/
import Derived.Test.YtkfhfennelckfaaLawKC
import Derived.Test.YtkfhfennelckfaaKRow
namespace Go.Proofs.Ytkfhfennelckfaa.keyCounts
open Go.ChangeShapes Go.WideShapes Go.ChangeAt Go.RowKit
set_option linter.unusedVariables false

theorem walk (v : Value) (x : ByteArray) (l : List Ky) (w : World) (h : KS w v l) (hl : l.length ≤ maxLen) (hwf : Wf l) (hx : x.size ≤ maxLen) :
    Calls Try.prog 5 #[.agg #[v, .string x]] w fun e w' => e = .returned (.bool true) ∧ Below w.heap.size w w' := lawkc v x l w h hl hwf

set_option maxRecDepth 100000 in
theorem lifted (os : Os) (started : os.Started) (H : Type) (enc : TypeId × Value → H) :
    ReturnsInHanded {} Try.checked os 5 .any (Rows.keyCountsSpec.pre6 enc Try.prog Try.f5 Rows.keyCountsRow.domain false) (Rows.keyCountsSpec.post enc Try.prog Try.f5 false true false false) := by
  refine returnsInHanded_of_change (C := Try.checked) own started (by kernel_rfl) Try.func5
    (ChangeSpec.witness6 (enc := enc) (C := Try.checked) false ⟨#[], #[.agg #[.slice none 0 0, .string ⟨#[]⟩]], []⟩ 8 (by kernel_rfl) (by kernel_rfl) (by kernel_rfl) (by kernel_rfl)) ?_
  intro W base args ds gs before hval0 hW hcnd _
  have hval : ∀ (j : Nat) t v, Try.f5.params[j]? = some t → args[j]? = some v → Value.okWide Try.prog W .any base t v := hval0
  have hW' := hW
  obtain ⟨p, q, hA0, hV, rfl, hfz, hnd⟩ := hW
  have hA : DataW.TrodAll enc Try.prog W 0 (fun _ => true) true Try.f5.params.toList args.toList ds p := hA0
  rw [Try.params5] at hA hval
  obtain ⟨v0, vs0, d0, ds0, p0, q0, hargs, rfl, rfl, h0, r0⟩ := trodAll_cons hA
  obtain ⟨rfl, rfl, rfl⟩ := trodAll_nil r0
  obtain rfl : args = #[v0] := by cases args; simp_all
  obtain ⟨rfl, rfl⟩ := trodVars_none hV
  have k0 := h0
  have lt0 : ∀ x ∈ p0, x.block < W.heap.size := by obtain ⟨m, hm⟩ := k0; exact DataW.trod_lt m _ _ _ hm
  obtain ⟨vl, x, l, rfl, hx, hl, hwf, hks⟩ := open_ask (hval 0 24 v0 rfl rfl) h0
  clear hA0 hval0
  refine (walk vl x l W hks hl hwf hx).mono fun e W' ⟨he, bel⟩ => ?_
  subst he
  exact ⟨_, rfl, _, _, _, [], _, [], hW', trodAll_mk1 (shut_bool Try.underlying4 _), (trodAll_cons_mk (Below.trod laidOut (by kernel_rfl) (of_decide_eq_true (by kernel_rfl)) k0 bel lt0) trodAll_mk0), rfl, bel.frame _, fun h => by cases h⟩

theorem over : Rows.keyCountsRow.holds Try.pinned (OpenSpec.ofChange Rows.keyCountsSpec) :=
  OpenClaim.holds_of_wide 5 Try.f5 rfl rfl rfl rfl rfl rfl rfl ⟨rfl, rfl, rfl, rfl, rfl⟩ rfl rfl rfl rfl rfl (by kernel_rfl) Try.func5 (by kernel_rfl)
    (of_decide_eq_true (by kernel_rfl)) (by unfold Func.isWrapper; first | (rw [if_pos (by decide +kernel)]; kernel_rfl) | (rw [if_neg (by decide +kernel)]; exact ⟨rfl, rfl⟩))
    (fun os started H enc _ => lifted os started H enc)

end Go.Proofs.Ytkfhfennelckfaa.keyCounts
namespace Go.Proofs.Ytkfhfennelckfaa
theorem keyCounts_holds : Rows.KeyCountsSaid := keyCounts.over
#print axioms keyCounts_holds
end Go.Proofs.Ytkfhfennelckfaa
