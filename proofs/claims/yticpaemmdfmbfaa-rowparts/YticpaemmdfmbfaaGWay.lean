/- Ways and bounds; rising lists. -/
import Derived.Test.YticpaemmdfmbfaaGRow
namespace Go.Proofs.Yticpaemmdfmbfaa
open Go.RowKit
set_option linter.unusedVariables false
set_option maxRecDepth 100000

/-- May a way and a bound be? -/
def wayC (agg bound : Int) : Bool := if agg = 6 then decide (1 ≤ bound ∧ bound ≤ 32) else decide (1 ≤ agg ∧ agg ≤ 5 ∧ bound = 0)
theorem wayC_bd {agg bound : Int} (h : wayC agg bound = true) : 1 ≤ agg ∧ agg ≤ 6 ∧ 0 ≤ bound ∧ bound ≤ 32 ∧ (agg = 6 → 1 ≤ bound) := by
  unfold wayC at h
  split at h <;> simp at h <;> omega
theorem isWay_any (agg bound : Int) (w : World) : Calls Try.prog 49 #[.int .i64 agg, .int .i64 bound] w fun e w' => e = .returned (.bool (wayC agg bound)) ∧ w' = w := by
  by_cases h6 : agg = 6
  · by_cases h1 : 1 ≤ bound
    · by_cases h2 : bound ≤ 32
      · rw [show wayC agg bound = true by unfold wayC; rw [if_pos h6]; exact decide_eq_true (by omega)]
        go_enter Try.func49, Try.ntmps49
        go_wp2
        go_ret
        exact ⟨rfl, rfl⟩
      · rw [show wayC agg bound = false by unfold wayC; rw [if_pos h6]; exact decide_eq_false (by omega)]
        go_enter Try.func49, Try.ntmps49
        go_wp2
        go_ret
        exact ⟨rfl, rfl⟩
    · rw [show wayC agg bound = false by unfold wayC; rw [if_pos h6]; exact decide_eq_false (by omega)]
      go_enter Try.func49, Try.ntmps49
      go_wp2
      go_ret
      exact ⟨rfl, rfl⟩
  · by_cases h1 : 1 ≤ agg
    · by_cases h2 : agg ≤ 5
      · have h2' : agg < 6 := by omega
        by_cases h3 : bound = 0
        · rw [show wayC agg bound = true by unfold wayC; rw [if_neg h6]; exact decide_eq_true (by omega)]
          go_enter Try.func49, Try.ntmps49
          go_wp2
          go_ret
          exact ⟨rfl, rfl⟩
        · have h3' : (bound == 0) = false := by simpa using h3
          rw [show wayC agg bound = false by unfold wayC; rw [if_neg h6]; exact decide_eq_false (by omega)]
          go_enter Try.func49, Try.ntmps49
          go_wp2
          go_ret
          exact ⟨rfl, rfl⟩
      · have h2' : ¬ agg < 6 := by omega
        rw [show wayC agg bound = false by unfold wayC; rw [if_neg h6]; exact decide_eq_false (by omega)]
        go_enter Try.func49, Try.ntmps49
        go_wp2
        go_ret
        exact ⟨rfl, rfl⟩
    · rw [show wayC agg bound = false by unfold wayC; rw [if_neg h6]; exact decide_eq_false (by omega)]
      go_enter Try.func49, Try.ntmps49
      go_wp2
      go_ret
      exact ⟨rfl, rfl⟩
/-- So far all rise. -/
def RiseTo (l : List Int) (k : Nat) : Prop := ∀ i x y, i + 1 < k → l[i]? = some x → l[i + 1]? = some y → x < y
theorem riseTo_end {l : List Int} {k : Nat} (h : RiseTo l k) (hk : l.length ≤ k) : Rise l :=
  rise_of_next l fun i x y h1 h2 => h i x y (by have := (List.getElem?_eq_some_iff.1 h2).1; omega) h1 h2
theorem riseTo_one (l : List Int) : RiseTo l 1 := fun i x y h => by omega
theorem riseTo_step {l : List Int} {k : Nat} {x y : Int} (h : RiseTo l (k + 1)) (hx : l[k]? = some x) (hy : l[k + 1]? = some y) (hlt : x < y) : RiseTo l (k + 2) := fun i a b hi ha hb => by
  by_cases e : i = k
  · subst e
    rw [hx] at ha
    rw [hy] at hb
    injection ha with ha
    injection hb with hb
    omega
  · exact h i a b (by omega) ha hb
set_option maxHeartbeats 400000 in
theorem rising_any (v : Value) (l : List Int) (w : World) (h : NS w v l) (hl : l.length ≤ 100000) :
    Calls Try.prog 76 #[v] w fun e w' => e = .returned (.bool (decide (Rise l))) ∧ Drawn w w' := by
  obtain ⟨a, cap, rfl, h⟩ := h
  rcases h with rfl | ⟨b, off, rfl, hb, hat⟩
  · go_enter Try.func76, Try.ntmps76
    go_wp2
    go_loop [3] (fun i => i = .int .i64 1) (fun _ => 0)
    case atStart => rfl
    case round =>
      subst hrel
      go_wp2
      go_ret
      exact ⟨rfl, Drawn.refl _⟩
  · obtain ⟨n, hn⟩ : ∃ n, l.length = n := ⟨_, rfl⟩
    rw [hn] at hl ⊢
    obtain ⟨r, hr⟩ : ∃ r, decide (Rise l) = r := ⟨_, rfl⟩
    rw [hr]
    have HR := hidM hr
    clear hr
    go_enter Try.func76, Try.ntmps76
    go_wp2
    go_loopw [3] (fun i wr => ∃ k : Nat, k ≤ n + 1 ∧ i = .int .i64 ((k : Int) + 1) ∧ Hid (RiseTo l (k + 1)) ∧ Drawn w wr) (fun i _ => n + 2 - (intOf i).toNat)
    case atStart => exact ⟨0, by omega, rfl, riseTo_one l, Drawn.refl _⟩
    case round =>
      obtain ⟨k, hk, rfl, HT, hD⟩ := hrel
      by_cases hlt : k + 1 < n
      · obtain ⟨x, hx⟩ := getSome (l := l) (i := k) (by omega)
        obtain ⟨y, hy⟩ := getSome (l := l) (i := k + 1) (by omega)
        have c0 := hat.below (hD.below w.heap.size) hb k x hx
        have c1 := hat.below (hD.below w.heap.size) hb (k + 1) y hy
        have HX := hidM hx
        have HY := hidM hy
        clear hat hx hy
        have hk0 : (0 : Int) ≤ (k : Int) + 1 := by omega
        have hkl : (k : Int) + 1 < n := by omega
        have e1 : (k : Int) + 1 - 1 = k := by omega
        have e2 : ((k : Int) + 1).toNat = k + 1 := by omega
        by_cases hxy : y ≤ x
        · go_wp2
          go_quiet (fail)
          go_wp2
          go_ret
          refine ⟨?_, hD.step _⟩
          have : ¬ Rise l := fun h => by have := rise_next h HX.out HY.out; omega
          rw [← HR.out, decide_eq_false this]; rfl
        · have hxy' : x < y := by omega
          go_wp2
          go_quiet (fail)
          go_wp2
          go_roundw
          case rel => exact ⟨k + 1, by omega, by go_num, riseTo_step HT.out HX.out HY.out hxy', hD.step _⟩
          case measure => simp [intOf]; omega
      · have hlt' : n ≤ k + 1 := by omega
        have hlt2 : (n : Int) ≤ (k : Int) + 1 := by omega
        go_wp2
        go_ret
        refine ⟨?_, hD⟩
        rw [← HR.out, decide_eq_true (riseTo_end HT.out (by omega))]; rfl
end Go.Proofs.Yticpaemmdfmbfaa
