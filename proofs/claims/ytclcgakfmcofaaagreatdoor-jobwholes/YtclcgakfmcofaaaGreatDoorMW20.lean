import Derived.Test.YtclcgakfmcofaaaGreatDoorMW13
set_option linter.unusedVariables false
set_option maxRecDepth 100000
namespace Go.Proofs.YtclcgakfmcofaaaGreatDoor
open Go.RowKit
def ip (n : Int) : Prop := -9223372036854775808 ≤ n ∧ n ≤ 9223372036854775807
theorem mP (n : Int) : ip (IntKind.i64.wrap n) := by
 unfold ip
 rw [IntKind.wrap_i64]
 omega
theorem iF (n : Int) : ip (wrap64 n) := by
 unfold ip wrap64
 omega
theorem n64_tru (b : Bool) : ip (tru b) := by cases b <;> exact ⟨by decide, by decide⟩
theorem n64_div (n : Int) (k : Nat) (h : ip n) : ip (n / 2 ^ k) := by
 unfold ip at *
 have hp : (0 : Int) < 2 ^ k := Int.pow_pos (by decide)
 have hp1 : (1 : Int) ≤ 2 ^ k := hp
 constructor
 ·rw [Int.le_ediv_iff_mul_le hp]
  have := Int.mul_le_mul_of_nonneg_left hp1 (show (0 : Int) ≤ 9223372036854775808 by decide)
  omega
 ·rcases Int.lt_or_le n 0 with h0 | h0
  ·have := Int.ediv_neg_of_neg_of_pos h0 hp
   omega
  ·have := Int.ediv_le_self (2 ^ k) h0
   omega
theorem n64_mod (n m : Int) (h : ip n) : ip (n.tmod m) := by
 unfold ip at *
 rcases Int.lt_or_le n 0 with h0 | h0
 ·have h1 := Int.tmod_nonneg m (show 0 ≤ -n by omega)
  have h2 : (-n).tmod m ≤ -n := by
   rcases Int.lt_or_le 0 m with hm | hm
   ·rw [Int.tmod_eq_emod_of_nonneg (by omega)]
    have := Int.emod_nonneg (-n) (show m ≠ 0 by omega)
    have h3 := Int.emod_add_mul_ediv (-n) m
    have h4 : 0 ≤ m * (-n / m) := Int.mul_nonneg (by omega) (Int.ediv_nonneg (by omega) (by omega))
    omega
   ·rcases Int.lt_or_le m 0 with hm0 | hm0
    ·rw [← Int.tmod_neg, Int.tmod_eq_emod_of_nonneg (by omega)]
     have h3 := Int.emod_add_mul_ediv (-n) (-m)
     have h4 : 0 ≤ (-m) * (-n / (-m)) := Int.mul_nonneg (by omega) (Int.ediv_nonneg (by omega) (by omega))
     omega
    ·obtain rfl : m = 0 := by omega
     simp
  rw [Int.neg_tmod] at h1 h2
  omega
 ·have h1 := Int.tmod_nonneg m h0
  have h2 : n.tmod m ≤ n := by
   rcases Int.lt_or_le 0 m with hm | hm
   ·rw [Int.tmod_eq_emod_of_nonneg (by omega)]
    have h3 := Int.emod_add_mul_ediv n m
    have h4 : 0 ≤ m * (n / m) := Int.mul_nonneg (by omega) (Int.ediv_nonneg (by omega) (by omega))
    omega
   ·rcases Int.lt_or_le m 0 with hm0 | hm0
    ·rw [← Int.tmod_neg, Int.tmod_eq_emod_of_nonneg (by omega)]
     have h3 := Int.emod_add_mul_ediv n (-m)
     have h4 : 0 ≤ (-m) * (n / (-m)) := Int.mul_nonneg (by omega) (Int.ediv_nonneg (by omega) (by omega))
     omega
    ·obtain rfl : m = 0 := by omega
     simp
  omega
theorem bD {p : Prop} [Decidable p] {a b : Int} (ha : ip a) (hb : ip b) : ip (if p then a else b) := by split <;> assumption
theorem n64_zero : ip 0 := ⟨by decide, by decide⟩
theorem of2_num (k n m : Int) (hn : ip n) (hm : ip m) : ip (bL k n m) := by
 unfold bL
 exact bD (iF _) (bD (iF _) (bD (iF _) (bD (bD n64_zero (iF _)) (bD (bD n64_zero (n64_mod n m hn)) (bD (mP _) (bD (mP _) (bD (mP _)
  (bD (iF _) (bD (n64_div _ _ hn) (bD (iF _) (bD (n64_tru _) (n64_tru _))))))))))))
theorem of1_num (k n : Int) (hn : ip n) : ip (fy k n) := by
 unfold fy
 exact bD (n64_tru _) (bD (by unfold ip; omega) (bD (iF _) (bD (by unfold ip; omega) (bD (iF _) (bD (iF _) (iF _))))))
structure nN (t : ByteArray) (s : St) : Prop where
 st : ∀ n ∈ s.st, ip n
 out : ∀ r ∈ s.out, ip r.1.1 ∧ ip r.2 ∧ r.1.2 = t
theorem hd_num {l : List Int} (h : ∀ n ∈ l, ip n) : ip (hd l) := by
 cases l with
 | nil => exact ⟨by decide, by decide⟩
 | cons a l => exact h a (by simp)
theorem cP {l : List Int} (h : ∀ n ∈ l, ip n) : ∀ n ∈ l.tail, ip n := fun n hn => h n (List.mem_of_mem_tail hn)
theorem eT {l : List Int} {a : Int} (ha : ip a) (h : ∀ n ∈ l, ip n) : ∀ n ∈ a :: l, ip n := fun n hn => by
 rcases List.mem_cons.1 hn with rfl | hn
 ·exact ha
 ·exact h n hn
theorem rep_num {t : ByteArray} {g : St → Re} (hg : ∀ s s', nN t s → g s = .ok s' → nN t s') : ∀ (i : Nat) (s s' : St), nN t s → iA g i s = .ok s' → nN t s'
 | 0, s, s', hs, e => by rw [iA] at e; injection e with e; subst e; exact hs
 | i + 1, s, s', hs, e => by
  rw [iA] at e
  cases hgs : g s with
  | err c => rw [hgs] at e; cases e
  | ok s1 =>
   rw [hgs] at e
   exact rep_num hg i s1 s' (hg s s1 hs hgs) e
theorem stp_num {x : Rc} (hx : Wr x) {k n : Int} (hn : ip n) {g : St → Re} (hg : ∀ s s', nN x.1.2 s → g s = .ok s' → nN x.1.2 s') {s s' : St} (hs : nN x.1.2 s) (e : iX x k n g s = .ok s') : nN x.1.2 s' := by
 have h0 := hd_num hs.st
 have h1 := hd_num (cP hs.st)
 unfold iX at e
 split at e
 ·injection e with e
  subst e
  refine ⟨eT ?_ hs.st, hs.out⟩
  unfold gv
  split; · exact ⟨hx.k1, hx.k2⟩
  split; · have := hx.txt; unfold ip; omega
  split; · exact ⟨hx.v1, hx.v2⟩
  exact hn
 split at e
 ·injection e with e
  subst e
  exact ⟨eT (of2_num _ _ _ h1 h0) (cP (cP hs.st)), hs.out⟩
 split at e
 ·injection e with e
  subst e
  exact ⟨eT (of1_num _ _ h0) (cP hs.st), hs.out⟩
 split at e
 ·injection e with e
  subst e
  exact ⟨eT h0 (eT h0 (cP hs.st)), hs.out⟩
 split at e
 ·injection e with e
  subst e
  exact ⟨eT h1 (eT h0 (cP (cP hs.st))), hs.out⟩
 split at e
 ·injection e with e
  subst e
  exact ⟨cP hs.st, hs.out⟩
 split at e
 ·exact rep_num hg _ ⟨s.fu, s.st.tail, s.out⟩ _ ⟨cP hs.st, hs.out⟩ e
 split at e
 ·cases e
 ·injection e with e
  subst e
  refine ⟨cP (cP hs.st), fun r hr => ?_⟩
  rcases List.mem_append.1 hr with hr | hr
  ·exact hs.out r hr
  ·simp at hr
   subst hr
   exact ⟨h1, h0, rfl⟩
theorem ev_num {x : Rc} (hx : Wr x) : ∀ (f : Fo) (s s' : St), WfN f → nN x.1.2 s → ev x f s = .ok s' → nN x.1.2 s' := by
 intro f
 induction f with
 | nil => intro s s' _ hs e; rw [ev] at e; injection e with e; subst e; exact hs
 | cons k n b r ihb ihr =>
  intro s s' hw hs e
  rw [ev_cons] at e
  unfold ev1 at e
  split at e
  ·cases e
  ·next s1 h1 =>
   split at h1
   ·cases h1
   ·exact ihr s1 s' hw.2.2.2 (stp_num (s := ⟨s.fu - 1, s.st, s.out⟩) hx hw.2.1 (fun a b' ha hb => ihb a b' hw.2.2.1 ha hb) ⟨hs.st, hs.out⟩ h1) e
theorem runR_wf {f : Fo} {x : Rc} (fu : Int) (hw : WfN f) (hx : Wr x) : ∀ r ∈ (df f x fu).2.2, Wr r ∧ r.1.2 = x.1.2 := by
 unfold df
 split
 ·simp
 ·split
  ·simp
  ·cases he : ev x f ⟨fu.toNat, [], []⟩ with
   | err c => simp
   | ok s =>
    intro r hr
    obtain ⟨h1, h2, h3⟩ := (ev_num hx f _ s hw ⟨by simp, by simp⟩ he).out r hr
    exact ⟨⟨h1.1, h1.2, by rw [h3]; exact hx.txt, h2.1, h2.2⟩, h3⟩
end Go.Proofs.YtclcgakfmcofaaaGreatDoor
