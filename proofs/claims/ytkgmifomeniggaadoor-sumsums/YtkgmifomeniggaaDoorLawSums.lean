/- The law SumSums' walk: it answers true, whatever row of strings comes in; it writes nothing that was there. -/
import Derived.Test.YtkgmifomeniggaaDoorStrs
import Derived.Deep.RegionHeld3
import Derived.WalkSmall
namespace Go.Proofs.YtkgmifomeniggaaDoor
open Go.RowKit
set_option linter.unusedVariables false

/-- What a round reads, and what was there. -/
def SumS (w : World) (b o : Nat) (x : ByteArray) (W : World) : Prop := W.cell? ⟨b, o, none⟩ = some (.string x) ∧ Halves W ∧ Below w.heap.size w W
theorem SumS.of {w wr : World} {b o : Nat} {x : ByteArray} (hc : w.cell? ⟨b, o, none⟩ = some (.string x)) (hb : b < w.heap.size) (hh : Halves w) (hbel : Below w.heap.size w wr) : SumS w b o x wr :=
  ⟨(hbel.cell (p := ⟨b, o, none⟩) hb).trans hc, hh.below hbel hh.pos, hbel⟩

set_option maxRecDepth 100000 in
set_option maxHeartbeats 800000 in
theorem lawsums (a : Option Addr) (len cap : Nat) (w : World) (h : Strs w a len) (hh : Halves w) :
    Calls Tryd.prog 3 #[.slice a len cap] w fun e w' => e = .returned (.bool true) ∧ Below w.heap.size w w' := by
  obtain ⟨hm, h⟩ := h
  unfold maxLen at hm
  rcases h with h0 | ⟨b, off, rfl, hb, hat⟩
  · have h0' : ((len : Nat) : Int) ≤ 0 := by omega
    go_enter Tryd.func3, Tryd.ntmps3
    go_wp2
    go_loop [3] (fun i => i = .int .i64 0) (fun _ => 0)
    case atStart => rfl
    case round =>
      subst hrel
      go_wp2_with (go_at_call 7; refine (wakes_any _ hh).mono ?_; rintro e w' ⟨rfl, rfl⟩)
      go_ret
      exact ⟨rfl, Below.refl _ _⟩
  · go_enter Tryd.func3, Tryd.ntmps3
    go_wp2
    go_loopw [3] (fun i wr => ∃ k : Nat, k ≤ len ∧ k ≤ 15 ∧ i = .int .i64 k ∧ Below w.heap.size w wr) (fun i _ => 15 - (intOf i).toNat)
    case atStart => exact ⟨0, by omega, by omega, rfl, Below.refl _ _⟩
    case round =>
      obtain ⟨k, hk, hk15, rfl, hbel⟩ := hrel
      have hhr := hh.below hbel hh.pos
      by_cases hlt : k < len ∧ k < 15
      · obtain ⟨hlt, hlt15⟩ := hlt
        obtain ⟨x, hA0, hx⟩ := hat k hlt
        have hS := SumS.of hA0 hb hh hbel
        have hA := hS.1
        clear hat hA0
        by_cases hg : 3000 < x.size
        · go_wp2
          go_ret
          exact ⟨rfl, hbel⟩
        · go_wp2
          go_region_held3 (fun W => W.cell? ⟨b, off + k, none⟩ = some (.string x) ∧ Halves W ∧ Below w.heap.size w W) (first | exact ⟨by simp [hA], hhr.drewN 1, hbel.drew⟩ | assumption)
              (first
                | (go_at_call 5; refine (sum_any _ _ hx (And.left (And.right ‹_ ∧ Halves _ ∧ _›))).mono ?_; rintro e w' ⟨rfl, rfl⟩)
                | (go_at_call 6; refine (rsum_any _ _ hx).mono ?_; rintro e w' ⟨rfl, rfl⟩))
          obtain ⟨_, _, hbelW⟩ := ‹_ ∧ Halves _ ∧ Below w.heap.size w _›
          go_wp2
          go_roundw
          case rel => exact ⟨k + 1, by omega, by omega, by go_num, hbelW⟩
          case measure => simp [intOf]; omega
      · go_wp2_with (go_at_call 7; refine (wakes_any _ hhr).mono ?_; rintro e w' ⟨rfl, rfl⟩)
        all_goals (go_ret; exact ⟨rfl, hbel⟩)
end Go.Proofs.YtkgmifomeniggaaDoor
