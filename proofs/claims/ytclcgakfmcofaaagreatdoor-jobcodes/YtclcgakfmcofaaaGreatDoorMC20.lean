import Derived.Test.YtclcgakfmcofaaaGreatDoorMC13
namespace Go.Proofs.YtclcgakfmcofaaaGreatDoor
open Go.RowKit
set_option linter.unusedVariables false
set_option maxRecDepth 100000
def N64 (n : Int) : Prop := -9223372036854775808 ≤ n ∧ n ≤ 9223372036854775807
theorem n64_wrap (n : Int) : N64 (IntKind.i64.wrap n) := by
 unfold N64
 rw [IntKind.wrap_i64]
 omega
theorem n64_w (n : Int) : N64 (wrap64 n) := by
 unfold N64 wrap64
 omega
theorem n64_tru (b : Bool) : N64 (tru b) := by cases b <;> exact ⟨by decide, by decide⟩
theorem n64_div (n : Int) (k : Nat) (h : N64 n) : N64 (n / 2 ^ k) := by
 unfold N64 at *
 have hp : (0 : Int) < 2 ^ k := Int.pow_pos (by decide)
 have hp1 : (1 : Int) ≤ 2 ^ k := hp
 constructor
 ·rw [Int.le_ediv_iff_mul_le hp]
  have := Int.mul_le_mul_of_nonneg_left hp1 (show (0 : Int) ≤ 9223372036854775808 by decide)
  omega
 ·rcases Int.lt_or_le n 0 with h0 | h0
  ·have := Int.ediv_neg_of_neg_of_pos h0 hp
   omega
  ·have := Int.ediv_le_self (2 ^ k) h0
   omega
theorem n64_mod (n m : Int) (h : N64 n) : N64 (n.tmod m) := by
 unfold N64 at *
 rcases Int.lt_or_le n 0 with h0 | h0
 ·have h1 := Int.tmod_nonneg m (show 0 ≤ -n by omega)
  have h2 : (-n).tmod m ≤ -n := by
   rcases Int.lt_or_le 0 m with hm | hm
   ·rw [Int.tmod_eq_emod_of_nonneg (by omega)]
    have := Int.emod_nonneg (-n) (show m ≠ 0 by omega)
    have h3 := Int.emod_add_mul_ediv (-n) m
    have h4 : 0 ≤ m * (-n / m) := Int.mul_nonneg (by omega) (Int.ediv_nonneg (by omega) (by omega))
    omega
   ·rcases Int.lt_or_le m 0 with hm0 | hm0
    ·rw [← Int.tmod_neg, Int.tmod_eq_emod_of_nonneg (by omega)]
     have h3 := Int.emod_add_mul_ediv (-n) (-m)
     have h4 : 0 ≤ (-m) * (-n / (-m)) := Int.mul_nonneg (by omega) (Int.ediv_nonneg (by omega) (by omega))
     omega
    ·obtain rfl : m = 0 := by omega
     simp
  rw [Int.neg_tmod] at h1 h2
  omega
 ·have h1 := Int.tmod_nonneg m h0
  have h2 : n.tmod m ≤ n := by
   rcases Int.lt_or_le 0 m with hm | hm
   ·rw [Int.tmod_eq_emod_of_nonneg (by omega)]
    have h3 := Int.emod_add_mul_ediv n m
    have h4 : 0 ≤ m * (n / m) := Int.mul_nonneg (by omega) (Int.ediv_nonneg (by omega) (by omega))
    omega
   ·rcases Int.lt_or_le m 0 with hm0 | hm0
    ·rw [← Int.tmod_neg, Int.tmod_eq_emod_of_nonneg (by omega)]
     have h3 := Int.emod_add_mul_ediv n (-m)
     have h4 : 0 ≤ (-m) * (n / (-m)) := Int.mul_nonneg (by omega) (Int.ediv_nonneg (by omega) (by omega))
     omega
    ·obtain rfl : m = 0 := by omega
     simp
  omega
theorem n64_ite {p : Prop} [Decidable p] {a b : Int} (ha : N64 a) (hb : N64 b) : N64 (if p then a else b) := by split <;> assumption
theorem n64_zero : N64 0 := ⟨by decide, by decide⟩
theorem of2_num (k n m : Int) (hn : N64 n) (hm : N64 m) : N64 (of2 k n m) := by
 unfold of2
 exact n64_ite (n64_w _) (n64_ite (n64_w _) (n64_ite (n64_w _) (n64_ite (n64_ite n64_zero (n64_w _)) (n64_ite (n64_ite n64_zero (n64_mod n m hn)) (n64_ite (n64_wrap _) (n64_ite (n64_wrap _) (n64_ite (n64_wrap _)
  (n64_ite (n64_w _) (n64_ite (n64_div _ _ hn) (n64_ite (n64_w _) (n64_ite (n64_tru _) (n64_tru _))))))))))))
theorem of1_num (k n : Int) (hn : N64 n) : N64 (of1 k n) := by
 unfold of1
 exact n64_ite (n64_tru _) (n64_ite (by unfold N64; omega) (n64_ite (n64_w _) (n64_ite (by unfold N64; omega) (n64_ite (n64_w _) (n64_ite (n64_w _) (n64_w _))))))
structure NumS (t : ByteArray) (s : St) : Prop where
 st : ∀ n ∈ s.st, N64 n
 out : ∀ r ∈ s.out, N64 r.1.1 ∧ N64 r.2 ∧ r.1.2 = t
theorem hd_num {l : List Int} (h : ∀ n ∈ l, N64 n) : N64 (hd l) := by
 cases l with
 | nil => exact ⟨by decide, by decide⟩
 | cons a l => exact h a (by simp)
theorem tail_num {l : List Int} (h : ∀ n ∈ l, N64 n) : ∀ n ∈ l.tail, N64 n := fun n hn => h n (List.mem_of_mem_tail hn)
theorem cons_num {l : List Int} {a : Int} (ha : N64 a) (h : ∀ n ∈ l, N64 n) : ∀ n ∈ a :: l, N64 n := fun n hn => by
 rcases List.mem_cons.1 hn with rfl | hn
 ·exact ha
 ·exact h n hn
theorem rep_num {t : ByteArray} {g : St → Re} (hg : ∀ s s', NumS t s → g s = .ok s' → NumS t s') : ∀ (i : Nat) (s s' : St), NumS t s → rep g i s = .ok s' → NumS t s'
 | 0, s, s', hs, e => by rw [rep] at e; injection e with e; subst e; exact hs
 | i + 1, s, s', hs, e => by
  rw [rep] at e
  cases hgs : g s with
  | err c => rw [hgs] at e; cases e
  | ok s1 =>
   rw [hgs] at e
   exact rep_num hg i s1 s' (hg s s1 hs hgs) e
theorem stp_num {x : Rc} (hx : Wr x) {k n : Int} (hn : N64 n) {g : St → Re} (hg : ∀ s s', NumS x.1.2 s → g s = .ok s' → NumS x.1.2 s') {s s' : St} (hs : NumS x.1.2 s) (e : stp x k n g s = .ok s') : NumS x.1.2 s' := by
 have h0 := hd_num hs.st
 have h1 := hd_num (tail_num hs.st)
 unfold stp at e
 split at e
 ·injection e with e
  subst e
  refine ⟨cons_num ?_ hs.st, hs.out⟩
  unfold gv
  split; · exact ⟨hx.k1, hx.k2⟩
  split; · have := hx.txt; unfold N64; omega
  split; · exact ⟨hx.v1, hx.v2⟩
  exact hn
 split at e
 ·injection e with e
  subst e
  exact ⟨cons_num (of2_num _ _ _ h1 h0) (tail_num (tail_num hs.st)), hs.out⟩
 split at e
 ·injection e with e
  subst e
  exact ⟨cons_num (of1_num _ _ h0) (tail_num hs.st), hs.out⟩
 split at e
 ·injection e with e
  subst e
  exact ⟨cons_num h0 (cons_num h0 (tail_num hs.st)), hs.out⟩
 split at e
 ·injection e with e
  subst e
  exact ⟨cons_num h1 (cons_num h0 (tail_num (tail_num hs.st))), hs.out⟩
 split at e
 ·injection e with e
  subst e
  exact ⟨tail_num hs.st, hs.out⟩
 split at e
 ·exact rep_num hg _ ⟨s.fu, s.st.tail, s.out⟩ _ ⟨tail_num hs.st, hs.out⟩ e
 split at e
 ·cases e
 ·injection e with e
  subst e
  refine ⟨tail_num (tail_num hs.st), fun r hr => ?_⟩
  rcases List.mem_append.1 hr with hr | hr
  ·exact hs.out r hr
  ·simp at hr
   subst hr
   exact ⟨h1, h0, rfl⟩
theorem ev_num {x : Rc} (hx : Wr x) : ∀ (f : Fo) (s s' : St), WfN f → NumS x.1.2 s → ev x f s = .ok s' → NumS x.1.2 s' := by
 intro f
 induction f with
 | nil => intro s s' _ hs e; rw [ev] at e; injection e with e; subst e; exact hs
 | cons k n b r ihb ihr =>
  intro s s' hw hs e
  rw [ev_cons] at e
  unfold ev1 at e
  split at e
  ·cases e
  ·next s1 h1 =>
   split at h1
   ·cases h1
   ·exact ihr s1 s' hw.2.2.2 (stp_num (s := ⟨s.fu - 1, s.st, s.out⟩) hx hw.2.1 (fun a b' ha hb => ihb a b' hw.2.2.1 ha hb) ⟨hs.st, hs.out⟩ h1) e
theorem runR_wf {f : Fo} {x : Rc} (fu : Int) (hw : WfN f) (hx : Wr x) : ∀ r ∈ (runR f x fu).2.2, Wr r ∧ r.1.2 = x.1.2 := by
 unfold runR
 split
 ·simp
 ·split
  ·simp
  ·cases he : ev x f ⟨fu.toNat, [], []⟩ with
   | err c => simp
   | ok s =>
    intro r hr
    obtain ⟨h1, h2, h3⟩ := (ev_num hx f _ s hw ⟨by simp, by simp⟩ he).out r hr
    exact ⟨⟨h1.1, h1.2, by rw [h3]; exact hx.txt, h2.1, h2.2⟩, h3⟩
end Go.Proofs.YtclcgakfmcofaaaGreatDoor
