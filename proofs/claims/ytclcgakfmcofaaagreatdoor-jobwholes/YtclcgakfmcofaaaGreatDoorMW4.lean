/- Texts laid together: GWay, GMay, GOne. -/
import Derived.Test.YtclcgakfmcofaaaGreatDoorMW2
set_option linter.unusedVariables false
set_option maxRecDepth 100000
set_option maxHeartbeats 800000
namespace Go.Proofs.YtclcgakfmcofaaaGreatDoor
open Go.RowKit
def aJ (agg bound : Int) : Bool := if agg = 6 then decide (1 ≤ bound ∧ bound ≤ 32) else decide (1 ≤ agg ∧ agg ≤ 5 ∧ bound = 0)
theorem jH {agg bound : Int} (h : aJ agg bound = true) : 1 ≤ agg ∧ agg ≤ 6 ∧ 0 ≤ bound ∧ bound ≤ 32 ∧ (agg = 6 → 1 ≤ bound) := by
 unfold aJ at h
 split at h <;> simp at h <;> omega
theorem nY (agg bound : Int) (w : World) : Calls Tryz.prog 123 #[.int .i64 agg, .int .i64 bound] w fun e w' => e = .returned (.bool (aJ agg bound)) ∧ w' = w := by
 by_cases h6 : agg = 6
 ·by_cases h1 : 1 ≤ bound
  ·by_cases h2 : bound ≤ 32
   ·rw [show aJ agg bound = true by unfold aJ; rw [if_pos h6]; exact decide_eq_true (by omega)]
    go_enter Tryz.func123, Tryz.ntmps123
    go_wp2
    go_ret
    exact ⟨rfl, rfl⟩
   ·rw [show aJ agg bound = false by unfold aJ; rw [if_pos h6]; exact decide_eq_false (by omega)]
    go_enter Tryz.func123, Tryz.ntmps123
    go_wp2
    go_ret
    exact ⟨rfl, rfl⟩
  ·rw [show aJ agg bound = false by unfold aJ; rw [if_pos h6]; exact decide_eq_false (by omega)]
   go_enter Tryz.func123, Tryz.ntmps123
   go_wp2
   go_ret
   exact ⟨rfl, rfl⟩
 ·by_cases h1 : 1 ≤ agg
  ·by_cases h2 : agg ≤ 5
   ·have h2' : agg < 6 := by omega
    by_cases h3 : bound = 0
    ·rw [show aJ agg bound = true by unfold aJ; rw [if_neg h6]; exact decide_eq_true (by omega)]
     go_enter Tryz.func123, Tryz.ntmps123
     go_wp2
     go_ret
     exact ⟨rfl, rfl⟩
    ·have h3' : (bound == 0) = false := by simpa using h3
     rw [show aJ agg bound = false by unfold aJ; rw [if_neg h6]; exact decide_eq_false (by omega)]
     go_enter Tryz.func123, Tryz.ntmps123
     go_wp2
     go_ret
     exact ⟨rfl, rfl⟩
   ·have h2' : ¬ agg < 6 := by omega
    rw [show aJ agg bound = false by unfold aJ; rw [if_neg h6]; exact decide_eq_false (by omega)]
    go_enter Tryz.func123, Tryz.ntmps123
    go_wp2
    go_ret
    exact ⟨rfl, rfl⟩
  ·rw [show aJ agg bound = false by unfold aJ; rw [if_neg h6]; exact decide_eq_false (by omega)]
   go_enter Tryz.func123, Tryz.ntmps123
   go_wp2
   go_ret
   exact ⟨rfl, rfl⟩
def mt (l : List Int) (k : Nat) : Prop := ∀ i x y, i + 1 < k → l[i]? = some x → l[i + 1]? = some y → x < y
theorem riseTo_end {l : List Int} {k : Nat} (h : mt l k) (hk : l.length ≤ k) : bl l :=
 jD l fun i x y h1 h2 => h i x y (by have := (List.getElem?_eq_some_iff.1 h2).1; omega) h1 h2
theorem riseTo_one (l : List Int) : mt l 1 := fun i x y h => by omega
theorem riseTo_step {l : List Int} {k : Nat} {x y : Int} (h : mt l (k + 1)) (hx : l[k]? = some x) (hy : l[k + 1]? = some y) (hlt : x < y) : mt l (k + 2) := fun i a b hi ha hb => by
 by_cases e : i = k
 ·subst e
  rw [hx] at ha
  rw [hy] at hb
  injection ha with ha
  injection hb with hb
  omega
 ·exact h i a b (by omega) ha hb
theorem rising_any (v : Value) (l : List Int) (w : World) (h : NS w v l) (hl : l.length ≤ 100000) :
  Calls Tryz.prog 157 #[v] w fun e w' => e = .returned (.bool (decide (bl l))) ∧ ec w w' := by
 obtain ⟨a, cap, rfl, h⟩ := h
 rcases h with rfl | ⟨b, off, rfl, hb, hat⟩
 ·go_enter Tryz.func157, Tryz.ntmps157
  go_wp2
  go_loop [3] (fun i => i = .int .i64 1) (fun _ => 0)
  case atStart => rfl
  case round =>
   subst hrel
   go_wp2
   go_ret
   exact ⟨rfl, ec.refl _⟩
 ·obtain ⟨n, hn⟩ : ∃ n, l.length = n := ⟨_, rfl⟩
  rw [hn] at hl ⊢
  obtain ⟨r, hr⟩ : ∃ r, decide (bl l) = r := ⟨_, rfl⟩
  rw [hr]
  have HR := ae hr
  clear hr
  go_enter Tryz.func157, Tryz.ntmps157
  go_wp2
  go_loopw [3] (fun i wr => ∃ k : Nat, k ≤ n + 1 ∧ i = .int .i64 ((k : Int) + 1) ∧ Hid (mt l (k + 1)) ∧ ec w wr) (fun i _ => n + 2 - (intOf i).toNat)
  case atStart => exact ⟨0, by omega, rfl, riseTo_one l, ec.refl _⟩
  case round =>
   obtain ⟨k, hk, rfl, HT, hD⟩ := hrel
   by_cases hlt : k + 1 < n
   ·obtain ⟨x, hx⟩ := ak (l := l) (i := k) (by omega)
    obtain ⟨y, hy⟩ := ak (l := l) (i := k + 1) (by omega)
    have c0 := hat.below (hD.below w.heap.size) hb k x hx
    have c1 := hat.below (hD.below w.heap.size) hb (k + 1) y hy
    have HX := ae hx
    have HY := ae hy
    clear hat hx hy
    have hk0 : (0 : Int) ≤ (k : Int) + 1 := by omega
    have hkl : (k : Int) + 1 < n := by omega
    have e1 : (k : Int) + 1 - 1 = k := by omega
    have e2 : ((k : Int) + 1).toNat = k + 1 := by omega
    by_cases hxy : y ≤ x
    ·go_wp2
     go_quiet (fail)
     go_wp2
     go_ret
     refine ⟨?_, hD.step _⟩
     have : ¬ bl l := fun h => by have := rise_next h HX.out HY.out; omega
     rw [← HR.out, decide_eq_false this]; rfl
    ·have hxy' : x < y := by omega
     go_wp2
     go_quiet (fail)
     go_wp2
     go_roundw
     case rel => exact ⟨k + 1, by omega, by go_num, riseTo_step HT.out HX.out HY.out hxy', hD.step _⟩
     case measure => simp [intOf]; omega
   ·have hlt' : n ≤ k + 1 := by omega
    have hlt2 : (n : Int) ≤ (k : Int) + 1 := by omega
    go_wp2
    go_ret
    refine ⟨?_, hD⟩
    rw [← HR.out, decide_eq_true (riseTo_end HT.out (by omega))]; rfl
abbrev jI (w : World) (r : Bool) : Ending → World → Prop := fun e w' => e = .returned (.bool r) ∧ Below w.heap.size w w'
theorem may6 (bound : Nat) (c : Cl) : gH 6 bound c = (decide (c.1 = 0) && decide (c.2.length ≤ bound) && decide (bl c.2)) := by
 unfold gH
 rw [if_pos rfl, Bool.and_assoc, Bool.and_assoc, Bool.and_comm (decide (bl c.2))]
theorem may2 (bound : Nat) (c : Cl) : gH 2 bound c = (decide (c.2.length = 0) && decide (0 ≤ c.1) && decide (c.1 ≤ 4611686018427387904)) := by
 unfold gH
 rw [if_neg (by decide), Bool.and_assoc]
 have e1 : decide (c.2 = []) = decide (c.2.length = 0) := by simp
 rw [e1]
 congr 1
 simp
theorem mayN {agg : Int} (h6 : agg ≠ 6) (h2 : agg ≠ 2) (bound : Nat) (c : Cl) : gH agg bound c = decide (c.2.length = 0) := by
 unfold gH
 rw [if_neg h6]
 simp [h2]
theorem mayBe_any (agg : Int) (bound : Nat) (v : Value) (c : Cl) (w : World) (h : CS w v c) (hl : c.2.length ≤ 100000) :
  Calls Tryz.prog 124 #[.int .i64 agg, .int .i64 (bound : Int), v] w (jI w (gH agg bound c)) := by
 obtain ⟨a, cap, rfl, hn⟩ := h
 have hb0 := (Below.refl w.heap.size w).alloc (Nat.le_refl _) (.cells #[.int .i64 c.1, .slice a c.2.length cap] 127)
 by_cases h6 : agg = 6
 ·subst h6
  have H1 := ae (rising_any _ c.2 _ (hn.below hb0) hl)
  have HB := ae hb0
  rw [may6]
  obtain ⟨n, l⟩ := c
  simp only at *
  obtain ⟨r, hr⟩ : ∃ r, decide (bl l) = r := ⟨_, rfl⟩
  rw [hr] at H1 ⊢
  obtain ⟨k, hk⟩ : ∃ k, l.length = k := ⟨_, rfl⟩
  rw [hk] at H1 HB ⊢
  clear hn hb0 hr hl hk
  by_cases hz : n = 0
  ·by_cases hle : k ≤ bound
   ·rw [decide_eq_true hz, decide_eq_true hle]
    subst hz
    go_enter Tryz.func124, Tryz.ntmps124
    go_wp2_with (go_at_call 157; refine H1.out.mono ?_; rintro e w' ⟨rfl, hd⟩)
    go_ret
    exact ⟨by simp, ag HB.out (hd.below _)⟩
   ·rw [decide_eq_true hz, decide_eq_false hle]
    subst hz
    go_enter Tryz.func124, Tryz.ntmps124
    go_wp2
    go_ret
    exact ⟨by simp, HB.out⟩
  ·have hz' : (n == 0) = false := by simpa using hz
   rw [decide_eq_false hz]
   go_enter Tryz.func124, Tryz.ntmps124
   go_wp2
   go_ret
   exact ⟨by simp, HB.out⟩
 ·have h6' : (agg == 6) = false := by simpa using h6
  have HB := ae hb0
  obtain ⟨n, l⟩ := c
  simp only at *
  by_cases h2 : agg = 2
  ·subst h2
   rw [may2]
   simp only
   obtain ⟨k, hk⟩ : ∃ k, l.length = k := ⟨_, rfl⟩
   rw [hk] at HB ⊢
   clear hn hb0 hl hk
   by_cases hz : k = 0
   ·by_cases h0 : 0 ≤ n
    ·by_cases h1 : n ≤ 4611686018427387904
     ·rw [decide_eq_true hz, decide_eq_true h0, decide_eq_true h1]
      subst hz
      go_enter Tryz.func124, Tryz.ntmps124
      go_wp2
      go_ret
      exact ⟨by simp, HB.out⟩
     ·rw [decide_eq_true hz, decide_eq_true h0, decide_eq_false h1]
      subst hz
      go_enter Tryz.func124, Tryz.ntmps124
      go_wp2
      go_ret
      exact ⟨by simp, HB.out⟩
    ·rw [decide_eq_true hz, decide_eq_false h0]
     subst hz
     go_enter Tryz.func124, Tryz.ntmps124
     go_wp2
     go_ret
     exact ⟨by simp, HB.out⟩
   ·have hz' : ((k : Int) == 0) = false := by simp; omega
    rw [decide_eq_false hz]
    go_enter Tryz.func124, Tryz.ntmps124
    go_wp2
    go_ret
    exact ⟨by simp, HB.out⟩
  ·have h2' : (agg == 2) = false := by simpa using h2
   rw [mayN h6 h2]
   simp only
   obtain ⟨k, hk⟩ : ∃ k, l.length = k := ⟨_, rfl⟩
   rw [hk] at HB ⊢
   clear hn hb0 hl hk
   by_cases hz : k = 0
   ·rw [decide_eq_true hz]
    subst hz
    go_enter Tryz.func124, Tryz.ntmps124
    go_wp2
    go_ret
    exact ⟨by simp, HB.out⟩
   ·have hz' : ((k : Int) == 0) = false := by simp; omega
    rw [decide_eq_false hz]
    go_enter Tryz.func124, Tryz.ntmps124
    go_wp2
    go_ret
    exact ⟨by simp, HB.out⟩
def fd (agg bound : Int) (c : Cl) : Bool := aJ agg bound && gH agg bound.toNat c
def iz (b : Bool) : Int := if b then 0 else 1
theorem eB (agg bound : Int) (v : Value) (c : Cl) (w : World) (h : CS w v c) (hl : c.2.length ≤ 100000) :
  Calls Tryz.prog 80 #[.int .i64 agg, .int .i64 bound, v] w fun e w' => e = .returned (.int .i64 (iz (fd agg bound c))) ∧ Below w.heap.size w w' := by
 obtain ⟨a, cap, rfl, hn⟩ := h
 obtain ⟨o, ho⟩ : ∃ o : Obj, o = .cells #[.int .i64 c.1, .slice a c.2.length cap] 127 := ⟨_, rfl⟩
 have hb0 := (Below.refl w.heap.size w).alloc (Nat.le_refl _) o
 have H1 := ae (fun W => nY agg bound W)
 unfold fd
 cases hw : aJ agg bound with
 | false =>
  rw [hw] at H1
  have HB := ae hb0
  subst ho
  clear hb0
  go_enter Tryz.func80, Tryz.ntmps80
  go_wp2_with (go_at_call 123; refine (H1.out _).mono ?_; rintro e w' ⟨rfl, rfl⟩)
  go_ret
  exact ⟨rfl, HB.out⟩
 | true =>
  rw [hw] at H1
  obtain ⟨bd, rfl⟩ := Int.eq_ofNat_of_zero_le (jH hw).2.2.1
  rw [Int.toNat_natCast]
  have H2 := ae (mayBe_any agg bd _ c (w.alloc o) ⟨a, cap, rfl, hn.below hb0⟩ hl)
  have hld := aH.load (aH.new w c.1 (.slice a c.2.length cap))
  rw [← ho] at hld
  have HB := ae hb0
  clear hb0
  obtain ⟨r, hr⟩ : ∃ r, gH agg bd c = r := ⟨_, rfl⟩
  rw [hr] at H2 ⊢
  clear hr
  subst ho
  cases r with
  | false =>
   go_enter Tryz.func80, Tryz.ntmps80
   go_wp2_with (first | (go_at_call 123; refine (H1.out _).mono ?_; rintro e w' ⟨rfl, rfl⟩) | (go_at_call 124; refine H2.out.mono ?_; rintro e w' ⟨rfl, hd⟩))
   go_ret
   exact ⟨rfl, ag HB.out hd⟩
  | true =>
   go_enter Tryz.func80, Tryz.ntmps80
   go_wp2_with (first | (go_at_call 123; refine (H1.out _).mono ?_; rintro e w' ⟨rfl, rfl⟩) | (go_at_call 124; refine H2.out.mono ?_; rintro e w' ⟨rfl, hd⟩))
   go_ret
   exact ⟨rfl, ag HB.out hd⟩
abbrev fE (w : World) (c : Cl) (e0 : Int) : Ending → World → Prop := fun e w' => (∃ v, e = .returned (.tuple #[v, .int .i64 e0]) ∧ iQ w' w.heap.size v c) ∧ Below w.heap.size w w'
theorem ret_num {w : World} {n e0 : Int} : fE w (n, []) e0 (.returned (.tuple #[.agg #[.int .i64 n, .slice none 0 0], .int .i64 e0])) (w.alloc (.cells #[.int .i64 n, .slice none 0 0] 127)) :=
 ⟨⟨_, rfl, iQ.num _ _ _⟩, (Below.refl _ _).alloc (Nat.le_refl _) _⟩
theorem nZ (w : World) (n x : Int) (b : Nat) (hb : w.heap.size + 1 = b) : aH ((w.alloc (.cells #[.int .i64 n, .slice (some ⟨b, 0, none⟩) 1 1] 127)).alloc (.cells #[.int .i64 x] 2)) w.heap.size n (.slice (some ⟨b, 0, none⟩) 1 1) ∧
  ay ((w.alloc (.cells #[.int .i64 n, .slice (some ⟨b, 0, none⟩) 1 1] 127)).alloc (.cells #[.int .i64 x] 2)) w.heap.size (.slice (some ⟨b, 0, none⟩) 1 1) [x] ∧
  Below w.heap.size w ((w.alloc (.cells #[.int .i64 n, .slice (some ⟨b, 0, none⟩) 1 1] 127)).alloc (.cells #[.int .i64 x] 2)) := by
 have e1 := aH.new w n (.slice (some ⟨b, 0, none⟩) 1 1)
 refine ⟨e1.below ((Below.refl _ _).alloc (Nat.le_refl _) _), ⟨rfl, .inr ⟨b, 1, #[.int .i64 x], rfl, by omega, ?_, by simp, by unfold maxLen; omega, rfl, rfl⟩⟩, ((Below.refl _ _).alloc (Nat.le_refl _) _).alloc (by simp) _⟩
 have e2 := heap_alloc_new (w.alloc (.cells #[.int .i64 n, .slice (some ⟨b, 0, none⟩) 1 1] 127)) (.cells #[.int .i64 x] 2)
 rw [show (w.alloc (.cells #[.int .i64 n, .slice (some ⟨b, 0, none⟩) 1 1] 127)).heap.size = b by simp; omega] at e2
 exact e2
def oneR (agg bound v : Int) : Cl × Int := if aJ agg bound then (dt agg v, 0) else ((0, []), 1)
theorem cone_any (agg bound x : Int) (w : World) : Calls Tryz.prog 132 #[.int .i64 agg, .int .i64 bound, .int .i64 x] w (fE w (oneR agg bound x).1 (oneR agg bound x).2) := by
 have H1 := ae (fun W => nY agg bound W)
 unfold oneR
 cases hw : aJ agg bound with
 | false =>
  rw [hw] at H1
  go_enter Tryz.func132, Tryz.ntmps132
  go_wp2_with (go_at_call 123; refine (H1.out _).mono ?_; rintro e w' ⟨rfl, rfl⟩)
  exact bodyPost_ret (ar rfl rfl (aH.new w _ _).load) rfl ret_num
 | true =>
  rw [hw] at H1
  unfold dt n1
  by_cases h6 : agg = 6
  ·subst h6
   go_enter Tryz.func132, Tryz.ntmps132
   go_wp2_with (go_at_call 123; refine (H1.out _).mono ?_; rintro e w' ⟨rfl, rfl⟩)
   obtain ⟨h1, h2, h3⟩ := nZ w 0 x _ rfl
   exact bodyPost_ret (ar rfl rfl h1.load) rfl ⟨⟨_, rfl, _, _, rfl, h2⟩, h3⟩
  ·have h6' : (agg == 6) = false := by simpa using h6
   by_cases h2 : agg = 2
   ·subst h2
    go_enter Tryz.func132, Tryz.ntmps132
    go_wp2_with (go_at_call 123; refine (H1.out _).mono ?_; rintro e w' ⟨rfl, rfl⟩)
    exact bodyPost_ret (ar rfl rfl (aH.new w _ _).load) rfl ret_num
   ·have h2' : (agg == 2) = false := by simpa using h2
    rw [if_neg h6, if_neg h2]
    go_enter Tryz.func132, Tryz.ntmps132
    go_wp2_with (go_at_call 123; refine (H1.out _).mono ?_; rintro e w' ⟨rfl, rfl⟩)
    exact bodyPost_ret (ar rfl rfl (aH.new w _ _).load) rfl ret_num
abbrev CellA (w : World) (c : Cl) : Ending → World → Prop := fun e w' => (∃ v, e = .returned v ∧ iQ w' w.heap.size v c) ∧ Below w.heap.size w w'
theorem ret_numA {w : World} {n : Int} : CellA w (n, []) (.returned (.agg #[.int .i64 n, .slice none 0 0])) (w.alloc (.cells #[.int .i64 n, .slice none 0 0] 127)) :=
 ⟨⟨_, rfl, iQ.num _ _ _⟩, (Below.refl _ _).alloc (Nat.le_refl _) _⟩
theorem rone_any (agg x : Int) (w : World) : Calls Tryz.prog 97 #[.int .i64 agg, .int .i64 x] w (CellA w (dt agg x)) := by
 unfold dt n1
 by_cases h6 : agg = 6
 ·subst h6
  go_enter Tryz.func97, Tryz.ntmps97
  go_wp2
  obtain ⟨h1, h2, h3⟩ := nZ w 0 x _ rfl
  exact bodyPost_ret (cC rfl rfl h1.load) rfl ⟨⟨_, rfl, _, _, rfl, h2⟩, h3⟩
 ·have h6' : (agg == 6) = false := by simpa using h6
  by_cases h2 : agg = 2
  ·subst h2
   go_enter Tryz.func97, Tryz.ntmps97
   go_wp2
   exact bodyPost_ret (cC rfl rfl (aH.new w _ _).load) rfl ret_numA
  ·have h2' : (agg == 2) = false := by simpa using h2
   rw [if_neg h6, if_neg h2]
   go_enter Tryz.func97, Tryz.ntmps97
   go_wp2
   exact bodyPost_ret (cC rfl rfl (aH.new w _ _).load) rfl ret_numA
end Go.Proofs.YtclcgakfmcofaaaGreatDoor
