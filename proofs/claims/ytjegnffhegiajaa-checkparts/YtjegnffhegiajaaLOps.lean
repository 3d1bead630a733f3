/- Contracts over ops: EqOps, OpsWeight, CopyOps. -/
import Derived.Test.YtjegnffhegiajaaLMem
import Derived.Deep.QuietTactic
import Derived.BigQuiet
namespace Go.Proofs.Ytjegnffhegiajaa
open Go.RowKit
set_option linter.unusedVariables false
set_option maxRecDepth 100000

/-- Each list of blocks is one that a machine can hold. -/
def WfB : Fo → Prop
  | .nil => True
  | .cons _ _ b r => b.len ≤ 3518437208780 ∧ WfB b ∧ WfB r
theorem WfB.at : ∀ {i : Nat} {f b r : Fo} {k n : Int}, WfB f → f.drop i = .cons k n b r → b.len ≤ 3518437208780 ∧ WfB b
  | 0, .nil, b, r, k, n, h, e => by simp [Fo.drop] at e
  | 0, .cons _ _ _ _, b, r, k, n, h, e => by simp [Fo.drop] at e; obtain ⟨rfl, rfl, rfl, rfl⟩ := e; exact ⟨h.1, h.2.1⟩
  | i + 1, .nil, b, r, k, n, h, e => by simp [Fo.drop] at e
  | i + 1, .cons _ _ _ _, b, r, k, n, h, e => WfB.at (i := i) h.2.2 e
theorem WfN.at : ∀ {i : Nat} {f b r : Fo} {k n : Int}, WfN f → f.drop i = .cons k n b r → (-9223372036854775808 ≤ k ∧ k ≤ 9223372036854775807) ∧ (-9223372036854775808 ≤ n ∧ n ≤ 9223372036854775807) ∧ WfN b
  | 0, .nil, b, r, k, n, h, e => by simp [Fo.drop] at e
  | 0, .cons _ _ _ _, b, r, k, n, h, e => by simp [Fo.drop] at e; obtain ⟨rfl, rfl, rfl, rfl⟩ := e; exact ⟨h.1, h.2.1, h.2.2.1⟩
  | i + 1, .nil, b, r, k, n, h, e => by simp [Fo.drop] at e
  | i + 1, .cons _ _ _ _, b, r, k, n, h, e => WfN.at (i := i) h.2.2.2 e
theorem WfB.of_tot (f : Fo) : ∀ d, okF f d = true → tot f ≤ 128 → f.len ≤ 128 ∧ WfB f := by
  induction f with
  | nil => intro d _ _; exact ⟨by simp [Fo.len], trivial⟩
  | cons k n b r ihb ihr =>
    intro d hok ht
    have hl := tot_len (.cons k n b r)
    simp only [okF, Bool.and_eq_true, decide_eq_true_eq] at hok
    obtain ⟨⟨⟨hd, ha⟩, hB⟩, hr⟩ := hok
    refine ⟨by omega, ?_⟩
    simp only [tot] at ht
    obtain ⟨_, h2⟩ := ihr d hr (by omega)
    cases hb : hasB k with
    | false => rw [hasB_alone ha hb]; exact ⟨by simp [Fo.len], trivial, h2⟩
    | true =>
      rw [hb] at hB ht
      simp at hB ht
      obtain ⟨h3, h4⟩ := ihb (d + 1) hB (by omega)
      exact ⟨by omega, h4, h2⟩

/-- From w on nothing has been done but draws. -/
def Drawn (w wr : World) : Prop := ∃ q, wr = w.drewN q
theorem Drawn.refl (w : World) : Drawn w w := ⟨0, rfl⟩
theorem Drawn.step {w wr : World} (h : Drawn w wr) (q : Nat) : Drawn w (wr.drewN q) := by obtain ⟨n, rfl⟩ := h; exact ⟨n + q, by simp [World.drewN, Nat.add_assoc]⟩
theorem Drawn.trans {a b c : World} (h : Drawn a b) (k : Drawn b c) : Drawn a c := by obtain ⟨n, rfl⟩ := k; exact h.step n
theorem Drawn.cell {w wr : World} (h : Drawn w wr) (a : Addr) : wr.cell? a = w.cell? a := by obtain ⟨n, rfl⟩ := h; rfl
theorem Drawn.below {w wr : World} (h : Drawn w wr) (B : Nat) : Below B w wr := by obtain ⟨n, rfl⟩ := h; exact ⟨rfl, rfl, rfl, Nat.le_refl _, fun _ _ => rfl⟩
theorem Drawn.fs {w wr : World} {v : Value} {f : Fo} (hD : Drawn w wr) (h : FS QA w v f) : FS QA wr v f := by obtain ⟨n, rfl⟩ := hD; exact h.drewN n
theorem Drawn.foAt {w wr : World} {f : Fo} {g o : Nat} (hD : Drawn w wr) (h : FoAt QA w f g o) : FoAt QA wr f g o := by obtain ⟨n, rfl⟩ := hD; exact h.move (fun b o hq => ⟨rfl, hq⟩) rfl

/-! ### OpsWeight -/
set_option maxHeartbeats 400000 in
theorem weightO_any : ∀ (d : Nat) (v : Value) (f : Fo) (w : World), FS QA w v f → f.len ≤ 3518437208780 → WfB f → d ≤ 12 →
    Calls Try.prog 14 #[v, .int .i64 d] w fun e w' => (∃ z : Int, e = .returned (.int .i64 z) ∧ 0 ≤ z ∧ z ≤ 3518437208780 + d * 1048576) ∧ w' = w := by
  intro d
  induction d with
  | zero =>
    intro v f w h hl hwf hd
    obtain ⟨a, cap, rfl⟩ := h.val
    go_enter Try.func14, Try.ntmps14
    go_wp2
    go_ret
    exact ⟨⟨_, rfl, by omega, by omega⟩, rfl⟩
  | succ d ih =>
    intro v f w h hl hwf hd
    have hdz : (((d + 1 : Nat) : Int) == 0) = false := beq_eq_false_iff_ne.2 (by omega)
    have hdz2 : ((d : Int) + 1 == 0) = false := beq_eq_false_iff_ne.2 (by omega)
    have hdi : ((d + 1 : Nat) : Int) = (d : Int) + 1 := by omega
    rw [hdi]
    have hd12 : (d : Int) ≤ 12 := by omega
    have hd0 : (0 : Int) ≤ d := by omega
    obtain ⟨n, hn⟩ : ∃ n, f.len = n := ⟨_, rfl⟩
    rcases h.shape with ⟨a, cap, rfl, rfl⟩ | ⟨g, o, cap, rfl, hq, hat⟩
    · clear hdz hdi
      go_enter Try.func14, Try.ntmps14
      go_wp2
      go_loop [5, 6] (fun n i => n = .int .i64 0 ∧ i = .int .i64 0) (fun _ _ => 0)
      case atStart => exact ⟨rfl, rfl⟩
      case round =>
        obtain ⟨rfl, rfl⟩ := hrel
        go_wp2
        go_ret
        exact ⟨⟨_, rfl, by omega, by omega⟩, rfl⟩
    · rw [hn] at hl ⊢
      have HN : Hid (f.len = n) := hn
      have HI : Hid (∀ (v : Value) (f : Fo) (w : World), FS QA w v f → f.len ≤ 3518437208780 → WfB f → d ≤ 12 →
        Calls Try.prog 14 #[v, .int .i64 d] w fun e w' => (∃ z : Int, e = .returned (.int .i64 z) ∧ 0 ≤ z ∧ z ≤ 3518437208780 + d * 1048576) ∧ w' = w) := ih
      clear hdz hdi hn ih
      go_enter Try.func14, Try.ntmps14
      go_wp2
      go_loop [5, 6] (fun x i => ∃ (k : Nat) (z : Int), k ≤ n ∧ i = .int .i64 k ∧ x = .int .i64 z ∧ 0 ≤ z ∧ z ≤ 3518437208780 + (d + 1) * 1048576) (fun _ i => n - (intOf i).toNat)
      case atStart => exact ⟨0, _, by omega, rfl, rfl, by omega, by omega⟩
      case round =>
        obtain ⟨k, z, hk, rfl, rfl, hz0, hz1⟩ := hrel
        by_cases hlt : k < n
        · obtain ⟨kk, nn, b, r, sv, e1, e2, e3, c0, c1, c2, hsv⟩ := hat.at (i := k) (by rw [HN.out]; exact hlt)
          obtain ⟨hb1, hb2⟩ := hwf.at e1
          have hc := fun W hW => HI.out sv b W hW hb1 hb2 (by omega)
          clear e1 e2 e3
          by_cases hx : z < 1048576
          · have Hc : Hid (∀ W, FS QA W sv b → Calls Try.prog 14 #[sv, .int .i64 d] W fun e w' => (∃ z : Int, e = .returned (.int .i64 z) ∧ 0 ≤ z ∧ z ≤ 3518437208780 + d * 1048576) ∧ w' = W) := hc
            obtain ⟨a', cap', rfl⟩ := hsv.val
            clear hc hat h hwf
            go_wp2_with (go_at_call 14; refine (Hc.out _ hsv).mono ?_; rintro e w' ⟨⟨y, rfl, hy0, hy1⟩, rfl⟩)
            go_round
            case rel => exact ⟨k + 1, z + y, by omega, by go_num, rfl, by omega, by omega⟩
            case measure => simp [intOf]; omega
          · have hx' : (1048576 : Int) ≤ z := by omega
            clear hc hat h hwf
            go_wp2
            go_ret
            exact ⟨⟨_, rfl, hz0, by omega⟩, rfl⟩
        · have hlt' : n ≤ k := by omega
          clear hat h hwf
          go_wp2
          go_ret
          exact ⟨⟨_, rfl, hz0, by omega⟩, rfl⟩
end Go.Proofs.Ytjegnffhegiajaa
