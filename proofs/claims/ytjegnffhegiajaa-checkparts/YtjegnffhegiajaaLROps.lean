/- The page's own: Ops. -/
import Derived.Test.YtjegnffhegiajaaLRCount
import Derived.Test.YtjegnffhegiajaaLChk
namespace Go.Proofs.Ytjegnffhegiajaa
open Go.RowKit
set_option linter.unusedVariables false
set_option maxRecDepth 100000

/-- The page's count. -/
def OpsR (f : Fo) (e : Ending) : Prop := (May f ∧ e = .returned (.tuple #[.int .i64 (tot f : Int), .bool true])) ∨ (¬ May f ∧ ∃ z, e = .returned (.tuple #[.int .i64 z, .bool false]))
theorem rops_any (f : Fo) (v : Value) (w : World) (h : FS QA w v f) (hl : f.len ≤ 3518437208780) (hwf : WfB f) :
    Calls Try.prog 9 #[v] w fun e w' => OpsR f e ∧ Below w.heap.size w w' := by
  have Hc := hidN (rcount_sz f.sz f v w 0 0 (Nat.le_refl _) h hl hwf (by omega) (by omega))
  rw [show ((0 : Nat) : Int) = 0 from rfl] at Hc
  obtain ⟨a, cap, rfl⟩ := h.val
  clear h hl hwf
  go_enter Try.func9, Try.ntmps9
  go_wp2_with (go_at_call 20; refine Hc.out.mono ?_)
  rintro e w1 ⟨hr, hb⟩
  have HB := hidN hb
  clear hb
  rcases hr with ⟨⟨h1, h2⟩, rfl⟩ | ⟨h1, z, rfl⟩
  · have HR : Hid (OpsR f (.returned (.tuple #[.int .i64 ((0 + tot f : Nat) : Int), .bool true]))) := .inl ⟨⟨h1, by omega⟩, by rw [Nat.zero_add]⟩
    generalize ((0 + tot f : Nat) : Int) = z at HR ⊢
    clear h1 h2
    go_wp2
    go_ret2
    exact ⟨HR.out, HB.out⟩
  · have HR : Hid (OpsR f (.returned (.tuple #[.int .i64 z, .bool false]))) := .inr ⟨fun h => h1 ⟨h.1, by have := h.2; omega⟩, z, rfl⟩
    clear h1
    go_wp2
    go_ret2
    exact ⟨HR.out, HB.out⟩
end Go.Proofs.Ytjegnffhegiajaa
