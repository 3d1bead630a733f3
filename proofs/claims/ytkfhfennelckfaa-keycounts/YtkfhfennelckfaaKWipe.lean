/- Contract: thresherlaw0.Keys writes over a row of the law's own, and nowhere else. -/
import Derived.Test.YtkfhfennelckfaaKCopy
import Derived.OwnWalk
namespace Go.Proofs.Ytkfhfennelckfaa
open Go.RowKit
set_option linter.unusedVariables false

/-- Block g is a row of at least n cells that may be written. -/
def RowAt (w : World) (g n : Nat) : Prop := ∃ cur e, w.heap[g]? = some (.cells cur e (0, 0)) ∧ n ≤ cur.size
theorem RowAt.cell {w : World} {g n i : Nat} (h : RowAt w g n) (hi : i < n) : ∃ u, w.cell? ⟨g, i, none⟩ = some u ∧ w.frozen? ⟨g, i, none⟩ = false := by
  obtain ⟨cur, e, hb, hn⟩ := h
  refine ⟨cur[i]'(by omega), ?_, ?_⟩
  · simp only [World.cell?, hb]; simp [show i < cur.size by omega]
  · simp [World.frozen?, hb]
theorem RowAt.lt {w : World} {g n : Nat} (h : RowAt w g n) : g < w.heap.size := by
  obtain ⟨cur, e, hb, hn⟩ := h; exact (Array.getElem?_eq_some_iff.1 hb).1
theorem RowAt.set {w : World} {g n : Nat} (h : RowAt w g n) (b o : Nat) (u : Value) : RowAt (w.setCell ⟨b, o, none⟩ u) g n := by
  obtain ⟨cur, e, hb, hn⟩ := h
  by_cases hg : b = g
  · subst hg
    refine ⟨cur.setIfInBounds o u, e, ?_, by simpa using hn⟩
    simp only [World.setCell, Array.getElem?_modify, hb]
    simp
  · exact ⟨cur, e, by rw [Below.heap_setCell _ _ _ _ (fun e : g = b => hg e.symm)]; exact hb, hn⟩

theorem grownBy_set (w : World) (g q : Nat) (u : Value) : w.grownBy (w.setCell ⟨g, q, none⟩ u) (some g) :=
  ⟨rfl, rfl, rfl, by simp [World.setCell], fun k hk hne => Below.heap_setCell _ _ _ _ (fun e => hne (by rw [e]))⟩
set_option maxHeartbeats 400000 in
theorem wipe_any (g cap : Nat) (n : Nat) (w : World) (h : RowAt w g (n * 2)) (hl : n ≤ 100000) :
    Calls Try.prog 22 #[.slice (some ⟨g, 0, none⟩) n cap] w fun e w' => e = .returned (.tuple #[]) ∧ w.grownBy w' (some g) := by
  go_enter Try.func22, Try.ntmps22
  go_wp2
  go_loopw [2] (fun i wr => ∃ k : Nat, k ≤ n ∧ i = .int .i64 k ∧ RowAt wr g (n * 2) ∧ w.grownBy wr (some g)) (fun i _ => n - (intOf i).toNat)
  case atStart => exact ⟨0, by omega, rfl, h, World.grownBy.refl _ _⟩
  case round =>
    obtain ⟨k, hk, rfl, hR, hbel⟩ := hrel
    by_cases hlt : k < n
    · obtain ⟨u0, c0, f0⟩ := hR.cell (i := k * 2) (by omega)
      obtain ⟨u1, c1, f1⟩ := hR.cell (i := k * 2 + 1) (by omega)
      go_wp2
      go_roundw
      case rel => exact ⟨k + 1, by omega, by go_num, (hR.set _ _ _).set _ _ _, (hbel.trans (grownBy_set _ _ _ _)).trans (grownBy_set _ _ _ _)⟩
      case measure => simp [intOf]; omega
    · have hlt' : n ≤ k := by omega
      go_wp2
      go_end0
      exact ⟨rfl, hbel⟩
theorem wipe_none (a : Option Addr) (cap : Nat) (w : World) :
    Calls Try.prog 22 #[.slice a 0 cap] w fun e w' => e = .returned (.tuple #[]) ∧ w' = w := by
  go_enter Try.func22, Try.ntmps22
  go_wp2
  go_loop [2] (fun i => i = .int .i64 0) (fun _ => 0)
  case atStart => rfl
  case round =>
    subst hrel
    go_wp2
    go_end0
    exact ⟨rfl, rfl⟩
/-- Whatever row of its own: nothing but that row turns. -/
theorem wipe_own (v : Value) (base : Nat) (l : List Ky) (w : World) (h : OwnK w base v l) (hl : l.length ≤ 100000) :
    Calls Try.prog 22 #[v] w fun e w' => e = .returned (.tuple #[]) ∧ w.grownBy w' v.ownBlock := by
  rcases h.2 with ⟨rfl, h0⟩ | ⟨g, cap, cur, rfl, hg, hb, hn, hm, hs, ht⟩
  · exact (wipe_none none 0 w).mono fun e w' ⟨he, hw⟩ => ⟨he, by subst hw; exact World.grownBy.refl _ _⟩
  · refine (wipe_any g cap l.length w ⟨cur, _, hb, ?_⟩ hl).mono fun e w' ⟨he, hw⟩ => ⟨he, hw⟩
    rw [hs]
    omega
end Go.Proofs.Ytkfhfennelckfaa
