/- lang.Count and lang.Check. -/
import Derived.Test.YtjegnffhegiajaaLCountF
namespace Go.Proofs.Ytjegnffhegiajaa
open Go.RowKit
set_option linter.unusedVariables false
set_option maxRecDepth 100000

/-- Ops that may be. -/
def May (f : Fo) : Prop := okF f 0 = true ∧ tot f ≤ 128
/-- What Count tells. -/
def CntR (f : Fo) (e : Ending) : Prop := (May f ∧ e = .returned (.tuple #[.int .i64 (tot f : Int), .int .i64 0])) ∨ (¬ May f ∧ e = .returned (.tuple #[.int .i64 0, .int .i64 1]))
theorem cnt_any (f : Fo) (v : Value) (w : World) (h : FS QA w v f) (hl : f.len ≤ 3518437208780) (hwf : WfB f) :
    Calls Try.prog 26 #[v] w fun e w' => CntR f e ∧ Below w.heap.size w w' := by
  have Hc := hidN (count_sz f.sz f v w 0 0 (Nat.le_refl _) h hl hwf (by omega) (by omega))
  rw [show ((0 : Nat) : Int) = 0 from rfl] at Hc
  obtain ⟨a, cap, rfl⟩ := h.val
  clear h hl hwf
  go_enter Try.func26, Try.ntmps26
  go_wp2_with (go_at_call 30; refine Hc.out.mono ?_)
  rintro e w1 ⟨hcr, hb⟩
  rcases hcr with ⟨hm, rfl⟩ | ⟨hm, rfl⟩
  · rw [Nat.zero_add] at hm ⊢
    have HM := hidN hm
    clear hm
    go_wp2
    go_ret2
    exact ⟨.inl ⟨HM.out, rfl⟩, hb⟩
  · rw [Nat.zero_add] at hm
    have HM := hidN hm
    clear hm
    go_wp2
    go_ret2
    exact ⟨.inr ⟨HM.out, rfl⟩, hb⟩
/-- What Check tells. -/
def ChkR (f : Fo) (e : Ending) : Prop := (May f ∧ e = .returned (.int .i64 0)) ∨ (¬ May f ∧ e = .returned (.int .i64 1))
theorem chk_any (f : Fo) (v : Value) (w : World) (h : FS QA w v f) (hl : f.len ≤ 3518437208780) (hwf : WfB f) :
    Calls Try.prog 21 #[v] w fun e w' => ChkR f e ∧ Below w.heap.size w w' := by
  have Hc := hidN (cnt_any f v w h hl hwf)
  obtain ⟨a, cap, rfl⟩ := h.val
  clear h hl hwf
  go_enter Try.func21, Try.ntmps21
  go_wp2_with (go_at_call 26; refine Hc.out.mono ?_)
  rintro e w1 ⟨hcr, hb⟩
  rcases hcr with ⟨hm, rfl⟩ | ⟨hm, rfl⟩
  · have HM := hidN hm
    clear hm
    go_wp2
    go_ret
    exact ⟨.inl ⟨HM.out, rfl⟩, hb⟩
  · have HM := hidN hm
    clear hm
    go_wp2
    go_ret
    exact ⟨.inr ⟨HM.out, rfl⟩, hb⟩
end Go.Proofs.Ytjegnffhegiajaa
