/- Count: how many ops there are, and whether they may be. -/
import Derived.Test.YtjegnffhegiajaaLBox
namespace Go.Proofs.Ytjegnffhegiajaa
open Go.RowKit
set_option linter.unusedVariables false
set_option maxRecDepth 100000

theorem hidN {p : Prop} (h : p) : Hid p := h
def okO (k n : Int) (b : Fo) (d : Nat) : Bool := alone k n b && (!hasB k || okF b (d + 1))
def allO : Fo → Nat → Bool
  | .nil, _ => true
  | .cons k n b r, d => okO k n b d && allO r d
def bt : Fo → Nat
  | .nil => 0
  | .cons k _ b r => (if hasB k then tot b else 0) + bt r
theorem okF_all (f : Fo) (d : Nat) : okF f d = (decide (d ≤ 6) && allO f d) := by
  induction f with
  | nil => simp [okF, allO]
  | cons k n b r _ ih =>
    simp only [okF, allO, okO, ih]
    cases decide (d ≤ 6) <;> cases alone k n b <;> cases (!hasB k || okF b (d + 1)) <;> rfl
theorem tot_bt (f : Fo) : tot f = f.len + bt f := by
  induction f with
  | nil => rfl
  | cons k n b r _ ih => simp only [tot, Fo.len, bt, ih]; omega
theorem allO_app (f g : Fo) (d : Nat) : allO (f.app g) d = (allO f d && allO g d) := by
  induction f with
  | nil => simp [Fo.app, allO]
  | cons k n b r _ ih => simp only [Fo.app, allO, ih, Bool.and_assoc]
theorem bt_app (f g : Fo) : bt (f.app g) = bt f + bt g := by
  induction f with
  | nil => simp [Fo.app, bt]
  | cons k n b r _ ih => simp only [Fo.app, bt, ih]; omega
/-- Where one op may not be, or its block makes too many. -/
theorem ok_not {f b r : Fo} {i d a : Nat} {k n : Int} (h : f.drop i = .cons k n b r) (hn : okO k n b d = false ∨ 128 < a + f.len + bt (f.take i) + (if hasB k then tot b else 0)) : ¬ (okF f d = true ∧ a + tot f ≤ 128) := by
  rintro ⟨h1, h2⟩
  have e := Fo.take_drop i f
  rw [h] at e
  rcases hn with hn | hn
  · rw [okF_all, ← e, allO_app] at h1
    simp [allO, hn] at h1
  · have hb : bt f = bt (f.take i) + ((if hasB k then tot b else 0) + bt r) := by rw [show bt f = bt ((f.take i).app (.cons k n b r)) by rw [e], bt_app]; rfl
    rw [tot_bt, hb] at h2
    omega

set_option maxHeartbeats 800000 in
theorem alone_any (k n : Int) (a : Option Addr) (b : Fo) (cap : Nat) (w : World) : Calls Try.prog 32 #[.agg #[.int .i64 k, .int .i64 n, .slice a b.len cap]] w fun e w' => e = .returned (.bool (alone k n b)) ∧ Below w.heap.size w w' := by
  have Hh := hidN (fun W => hasB_any k W)
  have hB := (Below.refl w.heap.size w).alloc (Nat.le_refl _) (.cells #[.int .i64 k, .int .i64 n, .slice a b.len cap] 38)
  unfold alone
  have e5 : ((b.len : Int) == 0) = (b.len == 0) := by
    by_cases h : b.len = 0
    · simp [h]
    · rw [beq_eq_false_iff_ne.2 (by omega), beq_eq_false_iff_ne.2 h]
  cases h1 : decide (1 ≤ k) with
  | false =>
    go_enter Try.func32, Try.ntmps32
    go_wp2
    go_ret
    exact ⟨rfl, hB⟩
  | true =>
    cases h2 : decide (k ≤ 30) with
    | false =>
      go_enter Try.func32, Try.ntmps32
      go_wp2
      go_ret
      exact ⟨rfl, hB⟩
    | true =>
      cases h3 : n == 0 with
      | true =>
        cases h5 : b.len == 0 with
        | true =>
          go_enter Try.func32, Try.ntmps32
          go_wp2
          go_ret
          exact ⟨rfl, hB⟩
        | false =>
          go_enter Try.func32, Try.ntmps32
          go_wp2_with (go_at_call 33; refine (Hh.out _).mono ?_; rintro e w' ⟨rfl, rfl⟩)
          go_ret
          exact ⟨rfl, hB⟩
      | false =>
        cases h4 : k == 1 with
        | false =>
          go_enter Try.func32, Try.ntmps32
          go_wp2
          go_ret
          exact ⟨rfl, hB⟩
        | true =>
          cases h5 : b.len == 0 with
          | true =>
            go_enter Try.func32, Try.ntmps32
            go_wp2
            go_ret
            exact ⟨rfl, hB⟩
          | false =>
            go_enter Try.func32, Try.ntmps32
            go_wp2_with (go_at_call 33; refine (Hh.out _).mono ?_; rintro e w' ⟨rfl, rfl⟩)
            go_ret
            exact ⟨rfl, hB⟩
end Go.Proofs.Ytjegnffhegiajaa
