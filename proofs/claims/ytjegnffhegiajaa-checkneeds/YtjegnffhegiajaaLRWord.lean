/- The page's own: words; sums of strings. -/
import Derived.Test.YtjegnffhegiajaaLNum
import Derived.Test.YtjegnffhegiajaaLParse
import Derived.Test.YtjegnffhegiajaaRows
import Derived.Test.YtjegnffhegiajaaSStr
import Derived.WalkKit
import Derived.WalkSmall
import Derived.Below
import Derived.Test.YtjegnffhegiajaaPlain
namespace Go.Proofs.Ytjegnffhegiajaa
open Go.RowKit
set_option linter.unusedVariables false
set_option maxRecDepth 100000

theorem hidD {p : Prop} (h : p) : Hid p := h
theorem ba_app (a b : List UInt8) : ba a ++ ba b = ba (a ++ b) := by apply ba_ext; show L _ = L _; rw [L_app, L_ba, L_ba, L_ba]
theorem ba_size (l : List UInt8) : (ba l).size = l.length := by rw [← L_len, L_ba]
theorem add_ba (a b : List UInt8) (h : a.length + b.length ≤ 100000) (W : World) : (Op.stringOp .add (ba a) (ba b)).run Try.prog W = .ok (.string (ba (a ++ b))) W := by
  rw [← ba_app]
  exact run_string_add_sum W _ _ (by rw [ba_size, ba_size]; omega)
theorem words_any (w : World) : Calls Try.prog 25 #[] w fun e w' => e = .returned (.slice (some ⟨w.heap.size, 0, none⟩) 29 29) ∧ (∀ k, k < 29 → w'.cell? ⟨w.heap.size, k, none⟩ = some (.string (ba (tab.getD (k + 2) [])))) ∧ Below w.heap.size w w' := by
  go_enter Try.func25, Try.ntmps25
  go_wp2
  go_ret
  refine ⟨rfl, fun k hk => ?_, (Below.refl _ _).alloc (Nat.le_refl _) _⟩
  rw [World.cell?_alloc_new]
  show (((tab.drop 2).map fun l => Value.string (ba l)).toArray)[k]? = _
  have hl : k + 2 < tab.length := by show k + 2 < 31; omega
  simp [List.getElem?_eq_getElem hl]
  rw [Nat.add_comm 2 k]
  simp [List.getElem?_eq_getElem hl]
end Go.Proofs.Ytjegnffhegiajaa
