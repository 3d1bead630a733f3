/- Heavy: one of both. -/
import Derived.Test.YtjegnffhegiajaaSStr
import Derived.Test.YtjegnffhegiajaaLOps
import Derived.Test.YtjegnffhegiajaaLOwn
import Derived.Test.YtjegnffhegiajaaLOpen
namespace Go.Proofs.Ytjegnffhegiajaa
open Go.RowKit
set_option linter.unusedVariables false
set_option maxRecDepth 100000

theorem hidA {p : Prop} (h : p) : Hid p := h
/-- What Heavy tells: one of both. -/
def HeavyR (e : Ending) : Prop := ∃ r : Bool, e = .returned (.bool r)
theorem heavy_any (vs vl : Value) (l : List ByteArray) (f : Fo) (w : World) (hS : SS w vs l ∧ List.length l ≤ 8796093021952 ∧ WfS l) (hF : FS QA w vl f ∧ f.len ≤ 3518437208780 ∧ WfB f ∧ WfN f) :
    Calls Try.prog 5 #[.agg #[vs, vl]] w fun e w' => HeavyR e ∧ Below w.heap.size w w' := by
  have hb := (Below.refl w.heap.size w).alloc (Nat.le_refl _) (.cells #[vs, vl] 25)
  have H1 := hidA (weight_any vs l _ (hS.1.below hb) hS.2.1 hS.2.2)
  have H2 := hidA (weightO_any 12 vl f _ (hF.1.below hb) hF.2.1 hF.2.2.1 (Nat.le_refl _))
  rw [show ((12 : Nat) : Int) = 12 from rfl] at H2
  have HB := hidA hb
  obtain ⟨a, cap, rfl, _⟩ := hS.1
  obtain ⟨a', cap', rfl⟩ := hF.1.val
  clear hS hF hb
  go_enter Try.func5, Try.ntmps5
  go_wp2_with (first | (go_at_call 13; refine H1.out.mono ?_; rintro e w' ⟨⟨n, rfl, hn⟩, rfl⟩) | (go_at_call 14; refine H2.out.mono ?_; rintro e w' ⟨⟨z, rfl, hz⟩, rfl⟩))
  all_goals
    go_ret
    exact ⟨⟨_, rfl⟩, HB.out⟩
end Go.Proofs.Ytjegnffhegiajaa
