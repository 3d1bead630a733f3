/- Texts laid together: PTPlain, PTHash. -/
import Derived.Test.YtclcgakfmcofaaaGreatDoorMC1
namespace Go.Proofs.YtclcgakfmcofaaaGreatDoor
open Go.RowKit
set_option linter.unusedVariables false
set_option maxRecDepth 100000
theorem gat_nodup (J : Cl → Cl → Cl × Int) (l : List Rw) (h : (l.map (·.1)).Nodup) : (gat J l).2 = 0 ∧ ∀ x c, look (gat J l).1 x = some c ↔ (x, c) ∈ l := by
 induction l using snoc_ind with
 | h0 => exact ⟨rfl, fun x c => by simp [gat_nil, look]⟩
 | h1 l r ih =>
  rw [List.map_append, List.nodup_append] at h
  obtain ⟨h1, -, h3⟩ := h
  obtain ⟨i1, i2⟩ := ih h1
  have hn : look (gat J l).1 r.1 = none := by
   cases hk : look (gat J l).1 r.1 with
   | none => rfl
   | some c =>
    have := (i2 _ _).1 hk
    exact absurd rfl (h3 _ (List.mem_map.2 ⟨_, this, rfl⟩) r.1 (by simp))
  rw [gat_snoc]
  unfold stepG
  simp only
  rw [err_putR (rise_gat J l), hn]
  refine ⟨by unfold errB; simpa using i1, fun x c => ?_⟩
  rw [look_putR (rise_gat J l), hn]
  unfold both
  simp only
  by_cases e : x = r.1
  ·subst e
   rw [if_pos rfl]
   constructor
   ·intro hc
    injection hc with hc
    subst hc
    simp
   ·intro hm
    rcases List.mem_append.1 hm with hm | hm
    ·exact absurd rfl (h3 _ (List.mem_map.2 ⟨_, hm, rfl⟩) r.1 (by simp))
    ·simp at hm; rw [← hm]
  ·rw [if_neg e, i2]
   constructor
   ·intro hm; exact List.mem_append.2 (.inl hm)
   ·intro hm
    rcases List.mem_append.1 hm with hm | hm
    ·exact hm
    ·simp at hm; exact absurd (by rw [← hm]) e
theorem rise_nodup {l : List Rw} (h : RiseK l) : (l.map (·.1)).Nodup := by
 unfold List.Nodup
 rw [List.pairwise_map]
 exact h.imp (fun h => ltK_ne h)
theorem gat_perm (J : Cl → Cl → Cl × Int) {l m : List Rw} (hl : RiseK l) (hp : m.Perm l) : gat J m = (l, 0) := by
 have hn : (m.map (·.1)).Nodup := (hp.map (·.1)).nodup_iff.2 (rise_nodup hl)
 obtain ⟨h1, h2⟩ := gat_nodup J m hn
 refine Prod.ext (riseK_ext (rise_gat J m) hl fun x => ?_) h1
 cases hx : look l x with
 | none =>
  cases hy : look (gat J m).1 x with
  | none => rfl
  | some c =>
   have := hp.mem_iff.1 ((h2 _ _).1 hy)
   exact absurd rfl (look_none.1 hx _ this)
 | some c => exact (h2 _ _).2 (hp.mem_iff.2 (look_mem hx))
def partR (f : Ky → Nat) (l : List Rw) (p : Nat) : List Rw := l.filter fun r => f r.1 == p
def partsR (f : Ky → Nat) (n : Nat) (l : List Rw) : List (List Rw) := (List.range n).map (partR f l)
theorem partsR_len (f : Ky → Nat) (n : Nat) (l : List Rw) : (partsR f n l).length = n := by unfold partsR; simp
theorem partsR_get (f : Ky → Nat) {n p : Nat} (l : List Rw) (h : p < n) : (partsR f n l)[p]? = some (partR f l p) := by unfold partsR; simp [h]
theorem partR_snoc (f : Ky → Nat) (l : List Rw) (r : Rw) (p : Nat) : partR f (l ++ [r]) p = if f r.1 = p then partR f l p ++ [r] else partR f l p := by
 unfold partR
 rw [List.filter_append]
 by_cases h : f r.1 = p
 ·rw [if_pos h]; simp [h]
 ·rw [if_neg h]; simp [h]
theorem partR_mem {f : Ky → Nat} {l : List Rw} {p : Nat} {r : Rw} : r ∈ partR f l p ↔ r ∈ l ∧ f r.1 = p := by unfold partR; rw [List.mem_filter]; simp
theorem partR_len (f : Ky → Nat) (l : List Rw) (p : Nat) : (partR f l p).length ≤ l.length := List.length_filter_le _ _
def upto (f : Ky → Nat) (l : List Rw) (n : Nat) : List Rw := l.filter fun r => decide (f r.1 < n)
theorem parts_perm (f : Ky → Nat) (l : List Rw) (n : Nat) : (partsR f n l).flatten.Perm (upto f l n) := by
 induction n with
 | zero => simp [partsR, upto]
 | succ n ih =>
  have e : partsR f (n + 1) l = partsR f n l ++ [partR f l n] := by unfold partsR; rw [List.range_succ, List.map_append]; rfl
  rw [e, List.flatten_append]
  simp only [List.flatten_cons, List.flatten_nil, List.append_nil]
  refine (ih.append_right _).trans ?_
  clear ih e
  induction l with
  | nil => simp [upto, partR]
  | cons a l ih =>
   unfold upto partR at ih ⊢
   by_cases h1 : f a.1 < n
   ·rw [List.filter_cons_of_pos (by simpa using h1), List.filter_cons_of_neg (by simp; omega), List.filter_cons_of_pos (by simp; omega), List.cons_append]
    exact ih.cons a
   ·by_cases h3 : f a.1 = n
    ·rw [List.filter_cons_of_neg (by simpa using h1), List.filter_cons_of_pos (by simpa using h3), List.filter_cons_of_pos (by simp; omega)]
     exact List.perm_middle.trans (ih.cons a)
    ·rw [List.filter_cons_of_neg (by simpa using h1), List.filter_cons_of_neg (by simpa using h3), List.filter_cons_of_neg (by simp; omega)]
     exact ih
theorem upto_all {f : Ky → Nat} {l : List Rw} {n : Nat} (h : ∀ r ∈ l, f r.1 < n) : upto f l n = l := by unfold upto; rw [List.filter_eq_self]; exact fun r hr => decide_eq_true (h r hr)
theorem gat_parts (J : Cl → Cl → Cl × Int) {f : Ky → Nat} {l : List Rw} {n : Nat} (hl : RiseK l) (h : ∀ r ∈ l, f r.1 < n) : gat J (partsR f n l).flatten = (l, 0) :=
 gat_perm J hl (by have := parts_perm f l n; rwa [upto_all h] at this)
set_option maxRecDepth 100000
def fnv1 (h : Int) (b : UInt8) : Int := (bits .xor .u32 h (b.toNat : Int) * 16777619) % 4294967296
def fnvF (h : Int) (l : List UInt8) : Int := l.foldl fnv1 h
def fnv (s : ByteArray) : Int := fnvF 2166136261 s.data.toList
theorem fnv1_lt (h : Int) (b : UInt8) : 0 ≤ fnv1 h b ∧ fnv1 h b ≤ 4294967295 := by unfold fnv1; omega
theorem fnvF_lt (l : List UInt8) : ∀ h : Int, 0 ≤ h ∧ h ≤ 4294967295 → 0 ≤ fnvF h l ∧ fnvF h l ≤ 4294967295 := by
 induction l with
 | nil => intro h hh; exact hh
 | cons b l ih => intro h _; exact ih _ (fnv1_lt h b)
theorem fnv_lt (s : ByteArray) : 0 ≤ fnv s ∧ fnv s ≤ 4294967295 := fnvF_lt _ _ (by omega)
theorem fnv_step (s : ByteArray) (k : Nat) (h : k < s.size) (x : Int) : fnvF x (s.data.toList.drop k) = fnvF (fnv1 x s[k]) (s.data.toList.drop (k + 1)) := by
 have h' : k < s.data.toList.length := by simpa using h
 rw [List.drop_eq_getElem_cons h']
 rfl
theorem fnv_end (s : ByteArray) (k : Nat) (h : s.size ≤ k) (x : Int) : fnvF x (s.data.toList.drop k) = x := by
 rw [List.drop_of_length_le (by simpa using h)]
 rfl
def mayP (n : Int) : Bool := decide (1 ≤ n) && decide (n ≤ 8)
theorem mayP_of {n : Int} (h : mayP n = true) : 1 ≤ n ∧ n ≤ 8 := by unfold mayP at h; rw [Bool.and_eq_true, decide_eq_true_eq, decide_eq_true_eq] at h; exact h
def ofP (n : Int) (k : Ky) : Nat := (fnv (kBytes k) % n).toNat
theorem ofP_lt {n : Int} (h : mayP n = true) (k : Ky) : ofP n k < n.toNat := by
 have h1 := mayP_of h
 have h2 := Int.emod_lt_of_pos (fnv (kBytes k)) (show 0 < n by omega)
 have h3 := Int.emod_nonneg (fnv (kBytes k)) (show n ≠ 0 by omega)
 unfold ofP
 omega
theorem ofP_int {n : Int} (h : mayP n = true) (k : Ky) : ((ofP n k : Nat) : Int) = fnv (kBytes k) % n := by
 have h1 := mayP_of h
 have h3 := Int.emod_nonneg (fnv (kBytes k)) (show n ≠ 0 by omega)
 unfold ofP
 omega
def ofRes (n : Int) (k : Ky) : Int × Int := if k.2.size ≤ 64 ∧ mayP n = true then (((ofP n k : Nat) : Int), 0) else (0, 1)
theorem ofRes_ok {n : Int} {k : Ky} (h : k.2.size ≤ 64) (hn : mayP n = true) : ofRes n k = (((ofP n k : Nat) : Int), 0) := by unfold ofRes; rw [if_pos ⟨h, hn⟩]
theorem ofRes_key {n : Int} {k : Ky} (h : ¬ k.2.size ≤ 64) : ofRes n k = (0, 1) := by unfold ofRes; rw [if_neg (fun e => h e.1)]
theorem ofRes_num {n : Int} {k : Ky} (h : mayP n = false) : ofRes n k = (0, 1) := by unfold ofRes; rw [if_neg (fun e => by rw [h] at e; cases e.2)]
abbrev prt (n : Int) (l : List Rw) : List (List Rw) := partsR (ofP n) n.toNat l
end Go.Proofs.YtclcgakfmcofaaaGreatDoor
