import Derived.Test.YtclcgakfmcofaaaGreatDoorMC4
namespace Go.Proofs.YtclcgakfmcofaaaGreatDoor
open Go.RowKit
set_option linter.unusedVariables false
set_option maxRecDepth 100000
theorem may6f {bound : Nat} {c : Cl} (h : ¬ Rise c.2) : mayC 6 bound c = false := by rw [may6, decide_eq_false h, Bool.and_false]
theorem may6t {bound : Nat} {c : Cl} (h : Rise c.2) : mayC 6 bound c = (decide (c.1 = 0) && decide (c.2.length ≤ bound)) := by rw [may6, decide_eq_true h, Bool.and_true]
set_option maxHeartbeats 800000 in
theorem rcell6_any (bound : Nat) (v : Value) (c : Cl) (w : World) (h : CS w v c) (hl : c.2.length ≤ 100000) :
  Calls Tryz.prog 72 #[.int .i64 6, .int .i64 (bound : Int), v] w (BoolR w (mayC 6 bound c)) := by
 obtain ⟨a, cap, rfl, hn⟩ := h
 obtain ⟨o, ho⟩ : ∃ o : Obj, o = .cells #[.int .i64 c.1, .slice a c.2.length cap] 127 := ⟨_, rfl⟩
 have hb0 := (Below.refl w.heap.size w).alloc (Nat.le_refl _) o
 have hB : BlkC (w.alloc o) w.heap.size c.1 (.slice a c.2.length cap) := by rw [ho]; exact BlkC.new w c.1 _
 have hn1 := hn.below hb0
 have HB := hidM hb0
 clear hn hb0
 obtain ⟨n, l⟩ := c
 simp only at *
 obtain ⟨m, hm⟩ : ∃ m, mayC 6 bound (n, l) = m := ⟨_, rfl⟩
 rw [hm]
 have HM := hidM hm
 clear hm
 have last : ∀ (W : World), Drawn (w.alloc o) W → Rise l → Hid (mayC 6 bound (n, l) = (decide (n = 0) && decide (l.length ≤ bound)) ∧ Below w.heap.size w W) := fun W hW hr => ⟨may6t hr, nxt HB.out (hW.below _)⟩
 have LAST := hidM last
 clear last
 obtain ⟨a', cap', e, hs⟩ := hn1
 injection e with e1 e2 e3
 subst e1 e3
 rcases hs with rfl | ⟨b, off, rfl, hb, hat⟩
 ·have HL := LAST.out _ (Drawn.refl _) Rise.nil
  clear LAST
  simp only [List.length_nil] at *
  have hle : (0 : Nat) ≤ bound := Nat.zero_le _
  subst ho
  by_cases hz : n = 0
  ·subst hz
   go_enter Tryz.func72, Tryz.ntmps72
   go_wp2
   go_loop [7] (fun i => i = .int .i64 1) (fun _ => 0)
   case atStart => rfl
   case round =>
    subst hrel
    go_wp2
    go_ret
    refine ⟨?_, HL.out.2⟩
    rw [← HM.out, HL.out.1]
    simp
  ·have hz' : (n == 0) = false := by simpa using hz
   go_enter Tryz.func72, Tryz.ntmps72
   go_wp2
   go_loop [7] (fun i => i = .int .i64 1) (fun _ => 0)
   case atStart => rfl
   case round =>
    subst hrel
    go_wp2
    go_ret
    refine ⟨?_, HL.out.2⟩
    rw [← HM.out, HL.out.1]
    simp [hz]
 ·obtain ⟨k0, hk0⟩ : ∃ k0, l.length = k0 := ⟨_, rfl⟩
  rw [hk0] at hl hB ho ⊢
  have HO := hidM ho
  rw [hk0] at LAST
  go_enter Tryz.func72, Tryz.ntmps72
  go_wp2
  rw [← HO.out]
  go_loopw [7] (fun i wr => ∃ k : Nat, k ≤ k0 + 1 ∧ i = .int .i64 ((k : Int) + 1) ∧ Hid (RiseTo l (k + 1)) ∧ Drawn (w.alloc o) wr) (fun i _ => k0 + 2 - (intOf i).toNat)
  case atStart => exact ⟨0, by omega, rfl, riseTo_one l, Drawn.refl _⟩
  case round =>
   obtain ⟨k, hk, rfl, HT, hD⟩ := hrel
   have hB' := hB.below (hD.below _)
   obtain ⟨b0, b1, -, -⟩ := hB'.cells
   by_cases hlt : k + 1 < k0
   ·obtain ⟨x, hx⟩ := getSome (l := l) (i := k) (by omega)
    obtain ⟨y, hy⟩ := getSome (l := l) (i := k + 1) (by omega)
    have c0 := hat.below (hD.below _) hb k x hx
    have c1 := hat.below (hD.below _) hb (k + 1) y hy
    have HX := hidM hx
    have HY := hidM hy
    clear hat hx hy ho
    have hk1 : (0 : Int) ≤ (k : Int) + 1 := by omega
    have hkl : (k : Int) + 1 < k0 := by omega
    have e1 : (k : Int) + 1 - 1 = k := by omega
    have e2 : ((k : Int) + 1).toNat = k + 1 := by omega
    by_cases hxy : y ≤ x
    ·go_wp2
     go_quiet (fail)
     go_wp2
     go_ret
     refine ⟨?_, nxt HB.out ((hD.step _).below _)⟩
     have : ¬ Rise l := fun h => by have := rise_next h HX.out HY.out; omega
     rw [← HM.out, may6f this]; rfl
    ·have hxy' : x < y := by omega
     go_wp2
     go_quiet (fail)
     go_wp2
     go_roundw
     case rel => exact ⟨k + 1, by omega, by go_num, riseTo_step HT.out HX.out HY.out hxy', hD.step _⟩
     case measure => simp [intOf]; omega
   ·have hlt' : k0 ≤ k + 1 := by omega
    have hlt2 : (k0 : Int) ≤ (k : Int) + 1 := by omega
    have HL := LAST.out _ hD (riseTo_end HT.out (by omega))
    clear hat ho
    by_cases hz : n = 0
    ·subst hz
     by_cases hle : k0 ≤ bound
     ·go_wp2
      go_ret
      refine ⟨?_, HL.out.2⟩
      rw [← HM.out, HL.out.1]
      simp [hle]
     ·go_wp2
      go_ret
      refine ⟨?_, HL.out.2⟩
      rw [← HM.out, HL.out.1]
      simp [hle]
    ·have hz' : (n == 0) = false := by simpa using hz
     go_wp2
     go_ret
     refine ⟨?_, HL.out.2⟩
     rw [← HM.out, HL.out.1]
     simp [hz]
set_option maxHeartbeats 800000 in
theorem rcell_any (agg : Int) (bound : Nat) (v : Value) (c : Cl) (w : World) (h : CS w v c) (hl : c.2.length ≤ 100000) :
  Calls Tryz.prog 72 #[.int .i64 agg, .int .i64 (bound : Int), v] w (BoolR w (mayC agg bound c)) := by
 by_cases h6 : agg = 6
 ·subst h6
  exact rcell6_any bound v c w h hl
 obtain ⟨a, cap, rfl, hn⟩ := h
 have HB := hidM ((Below.refl w.heap.size w).alloc (Nat.le_refl _) (.cells #[.int .i64 c.1, .slice a c.2.length cap] 127))
 have h6' : (agg != 6) = true := by simpa using h6
 obtain ⟨n, l⟩ := c
 simp only at *
 by_cases h2 : agg = 2
 ·subst h2
  rw [may2]
  simp only
  obtain ⟨k, hk⟩ : ∃ k, l.length = k := ⟨_, rfl⟩
  rw [hk] at HB ⊢
  clear hn hl hk
  by_cases hz : k = 0
  ·by_cases h0 : 0 ≤ n
   ·by_cases h1 : n ≤ 4611686018427387904
    ·rw [decide_eq_true hz, decide_eq_true h0, decide_eq_true h1]
     subst hz
     go_enter Tryz.func72, Tryz.ntmps72
     go_wp2
     go_ret
     exact ⟨by simp, HB.out⟩
    ·rw [decide_eq_true hz, decide_eq_true h0, decide_eq_false h1]
     subst hz
     go_enter Tryz.func72, Tryz.ntmps72
     go_wp2
     go_ret
     exact ⟨by simp, HB.out⟩
   ·rw [decide_eq_true hz, decide_eq_false h0]
    subst hz
    go_enter Tryz.func72, Tryz.ntmps72
    go_wp2
    go_ret
    exact ⟨by simp, HB.out⟩
  ·have hz' : ((k : Int) == 0) = false := by simp; omega
   rw [decide_eq_false hz]
   go_enter Tryz.func72, Tryz.ntmps72
   go_wp2
   go_ret
   exact ⟨by simp, HB.out⟩
 ·have h2' : (agg != 2) = true := by simpa using h2
  rw [mayN h6 h2]
  simp only
  obtain ⟨k, hk⟩ : ∃ k, l.length = k := ⟨_, rfl⟩
  rw [hk] at HB ⊢
  clear hn hl hk
  by_cases hz : k = 0
  ·rw [decide_eq_true hz]
   subst hz
   go_enter Tryz.func72, Tryz.ntmps72
   go_wp2
   go_ret
   exact ⟨by simp, HB.out⟩
  ·have hz' : ((k : Int) == 0) = false := by simp; omega
   rw [decide_eq_false hz]
   go_enter Tryz.func72, Tryz.ntmps72
   go_wp2
   go_ret
   exact ⟨by simp, HB.out⟩
end Go.Proofs.YtclcgakfmcofaaaGreatDoor
