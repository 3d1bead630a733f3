/- Records: what Bytes, Take, All and Text compute, and that they undo each other. -/
import Derived.Test.YtdejdcibcihfeaaB5
import Derived.Test.YtdejdcibcihfeaaB6
namespace Go.Proofs.Ytdejdcibcihfeaa
set_option linter.unusedVariables false
set_option maxRecDepth 100000

def rBytes (x : Rc) : ByteArray := kBytes x.1 ++ bytesOf x.2
def rTake (s : ByteArray) : Rc × Int × Int :=
  if (kTake s).2.2 ≠ 0 then (r0, 0, (kTake s).2.2)
  else if (takeOf (from' s (kTake s).2.1)).2.2 ≠ 0 then (r0, 0, (takeOf (from' s (kTake s).2.1)).2.2)
  else (((kTake s).1, (takeOf (from' s (kTake s).2.1)).1), (kTake s).2.1 + (takeOf (from' s (kTake s).2.1)).2.1, 0)

/-! ### How many bytes are taken -/
theorem tq {s : ByteArray} {m j : Int} (h : takeOf s = (m, j, 0)) : ∃ q : Nat, j = (q : Int) ∧ q ≤ s.size ∧ q ≤ 10 ∧ -9223372036854775808 ≤ m ∧ m ≤ 9223372036854775807 := by
  obtain ⟨q, e, hq, h1, h2, h3⟩ := take_back s m j h
  refine ⟨q, e, hq, ?_, h1, h2⟩
  have := bytes_len m
  rw [h3, ByteArray.size_extract] at this
  omega
theorem from_size (s : ByteArray) (n : Nat) : (from' s (n : Int)).size = s.size - n := by
  unfold from'; rw [ByteArray.size_extract, Int.toNat_natCast]; omega
theorem xq {s b : ByteArray} {j : Int} (h : textOf s = (b, j, 0)) : ∃ q : Nat, j = (q : Int) ∧ q ≤ s.size ∧ q ≤ 74 := by
  unfold textOf at h
  split at h
  · next h0 => injection h with _ h; injection h with _ h; exact absurd h h0
  · next h0 =>
    have h0 : (takeOf s).2.2 = 0 := by simpa using h0
    obtain ⟨q, e, hq, hq1, _⟩ := tq (s := s) (m := (takeOf s).1) (j := (takeOf s).2.1) (by rw [← h0])
    split at h
    · injection h with _ h; injection h with _ h; exact absurd h (by decide)
    · split at h
      · injection h with _ h; injection h with _ h; exact absurd h (by decide)
      · next h1 h2 =>
        injection h with _ h; injection h with h _
        exact ⟨((takeOf s).2.1 + (takeOf s).1).toNat, by omega, by omega, by omega⟩
theorem kq {s : ByteArray} {k : Ky} {j : Int} (h : kTake s = (k, j, 0)) : ∃ q : Nat, j = (q : Int) ∧ q ≤ s.size ∧ q ≤ 84 := by
  unfold kTake at h
  split at h
  · next h0 => injection h with _ h; injection h with _ h; exact absurd h h0
  · next h0 =>
    have h0 : (takeOf s).2.2 = 0 := by simpa using h0
    obtain ⟨q, e, hq, hq1, _⟩ := tq (s := s) (m := (takeOf s).1) (j := (takeOf s).2.1) (by rw [← h0])
    split at h
    · next h1 => injection h with _ h; injection h with _ h; exact absurd h h1
    · next h1 =>
      have h1 : (textOf (from' s (takeOf s).2.1)).2.2 = 0 := by simpa using h1
      obtain ⟨p, e2, hp, hp1⟩ := xq (s := from' s (takeOf s).2.1) (b := (textOf (from' s (takeOf s).2.1)).1) (j := (textOf (from' s (takeOf s).2.1)).2.1) (by rw [← h1])
      injection h with _ h; injection h with h _
      rw [e, from_size] at hp
      exact ⟨q + p, by omega, by omega, by omega⟩
theorem rq {s : ByteArray} {r : Rc} {j : Int} (h : rTake s = (r, j, 0)) : ∃ q : Nat, j = (q : Int) ∧ q ≤ s.size ∧ q ≤ 94 := by
  unfold rTake at h
  split at h
  · next h0 => injection h with _ h; injection h with _ h; exact absurd h h0
  · next h0 =>
    have h0 : (kTake s).2.2 = 0 := by simpa using h0
    obtain ⟨q, e, hq, hq1⟩ := kq (s := s) (k := (kTake s).1) (j := (kTake s).2.1) (by rw [← h0])
    split at h
    · next h1 => injection h with _ h; injection h with _ h; exact absurd h h1
    · next h1 =>
      have h1 : (takeOf (from' s (kTake s).2.1)).2.2 = 0 := by simpa using h1
      obtain ⟨p, e2, hp, hp1, _⟩ := tq (s := from' s (kTake s).2.1) (m := (takeOf (from' s (kTake s).2.1)).1) (j := (takeOf (from' s (kTake s).2.1)).2.1) (by rw [← h1])
      injection h with _ h; injection h with h _
      rw [e, from_size] at hp
      exact ⟨q + p, by omega, by omega, by omega⟩

/-! ### A record's bytes taken -/
/-- A record whose bytes there are. -/
structure Okr (x : Rc) : Prop where
  txt : x.1.2.size ≤ 64
  k1 : -9223372036854775808 ≤ x.1.1
  k2 : x.1.1 ≤ 9223372036854775807
  v1 : -9223372036854775808 ≤ x.2
  v2 : x.2 ≤ 9223372036854775807
theorem kBytes_len (x : Ky) (h : x.2.size ≤ 64) : (kBytes x).size ≤ 84 := by
  have := bytes_len x.1
  have := bytes_len (x.2.size : Int)
  unfold kBytes
  rw [ByteArray.size_append, ByteArray.size_append]
  omega
theorem rBytes_len (x : Rc) (h : x.1.2.size ≤ 64) : (rBytes x).size ≤ 94 := by
  have := kBytes_len x.1 h
  have := bytes_len x.2
  unfold rBytes
  rw [ByteArray.size_append]
  omega
theorem rTake_bytes {x : Rc} (h : Okr x) (y : ByteArray) : rTake (rBytes x ++ y) = (x, ((rBytes x).size : Int), 0) := by
  have e0 : rBytes x ++ y = kBytes x.1 ++ (bytesOf x.2 ++ y) := by unfold rBytes; rw [app_assoc]
  have e := kTake_bytes x.1 h.txt h.k1 h.k2 (bytesOf x.2 ++ y)
  have e2 := take_bytes x.2 h.v1 h.v2 y
  have es : (rBytes x).size = (kBytes x.1).size + (bytesOf x.2).size := by unfold rBytes; rw [ByteArray.size_append]
  rw [es, e0]
  unfold rTake
  rw [e]
  simp only [ne_eq, not_true_eq_false, if_false]
  rw [from_app, e2]
  simp
theorem rTake_nil (s : ByteArray) (h : s.size = 0) : (rTake s).2.2 = 6 := by
  have hl : s.data.toList = [] := List.length_eq_zero_iff.1 ((Lib.size_eq s).symm.trans h)
  have e : takeOf s = (0, 0, 6) := by unfold takeOf; rw [hl]; rfl
  unfold rTake kTake
  rw [e]
  simp
theorem rBytes_pos {x : Rc} (h : Okr x) (y : ByteArray) : ¬ (rBytes x ++ y).size = 0 := by
  intro h0
  have := rTake_nil _ h0
  rw [rTake_bytes h y] at this
  simp at this

/-! ### All -/
/-- Take what s is, behind acc, n more at most. -/
def allG : Nat → List Rc → ByteArray → List Rc × Int
  | n, acc, s =>
    if s.size = 0 then (acc, 0)
    else match n with
      | 0 => ([], 2)
      | n + 1 => if (rTake s).2.2 ≠ 0 then ([], (rTake s).2.2) else allG n (acc ++ [(rTake s).1]) (from' s (rTake s).2.1)
def allOf (s : ByteArray) : List Rc × Int := if 8192 < s.size then ([], 2) else allG 64 [] s
theorem allG_nil (n : Nat) (acc : List Rc) (s : ByteArray) (h : s.size = 0) : allG n acc s = (acc, 0) := by unfold allG; rw [if_pos h]
theorem allG_over (acc : List Rc) (s : ByteArray) (h : ¬ s.size = 0) : allG 0 acc s = ([], 2) := by unfold allG; rw [if_neg h]
theorem allG_bad (n : Nat) (acc : List Rc) (s : ByteArray) (h : ¬ s.size = 0) (r : Rc) (j e : Int) (ht : rTake s = (r, j, e)) (he : e ≠ 0) : allG (n + 1) acc s = ([], e) := by
  unfold allG; rw [if_neg h, ht]; simp only [ne_eq, he, not_false_eq_true, if_true]
theorem allG_more (n : Nat) (acc : List Rc) (s : ByteArray) (h : ¬ s.size = 0) (r : Rc) (q : Nat) (ht : rTake s = (r, (q : Int), 0)) : allG (n + 1) acc s = allG n (acc ++ [r]) (s.extract q s.size) := by
  conv => lhs; unfold allG
  rw [if_neg h, ht]; simp only [ne_eq, not_true_eq_false, if_false, from', Int.toNat_natCast]
theorem allG_len : ∀ (n : Nat) (acc : List Rc) (s : ByteArray), acc.length + n ≤ 64 → (allG n acc s).1.length ≤ 64
  | 0, acc, s, h => by unfold allG; split <;> simp <;> omega
  | n + 1, acc, s, h => by
    unfold allG
    split
    · simp; omega
    · simp only
      split
      · simp
      · exact allG_len n _ _ (by simp; omega)
theorem allOf_len (s : ByteArray) : (allOf s).1.length ≤ 64 := by
  unfold allOf; split
  · simp
  · exact allG_len 64 [] s (by simp)

/-! ### Text -/
def cat : List Rc → ByteArray
  | [] => ⟨#[]⟩
  | x :: l => rBytes x ++ cat l
def Good (l : List Rc) : Prop := ∀ x ∈ l, x.1.2.size ≤ 64
instance (l : List Rc) : Decidable (Good l) := inferInstanceAs (Decidable (∀ x ∈ l, x.1.2.size ≤ 64))
def txtOf (l : List Rc) : ByteArray × Int := if 64 < l.length then (⟨#[]⟩, 2) else if Good l then (cat l, 0) else (⟨#[]⟩, 1)
theorem cat_snoc : ∀ (l : List Rc) (x : Rc), cat (l ++ [x]) = cat l ++ rBytes x
  | [], x => by simp only [List.nil_append, cat]; rw [nil_app, app_nil]
  | a :: l, x => by simp only [List.cons_append, cat]; rw [cat_snoc l x, app_assoc]
theorem cat_len : ∀ l : List Rc, Good l → (cat l).size ≤ 94 * l.length
  | [], _ => Nat.zero_le _
  | a :: l, h => by
    have h1 := cat_len l (fun x hx => h x (List.mem_cons_of_mem _ hx))
    have h2 := rBytes_len a (h a (List.mem_cons_self ..))
    simp only [cat]
    rw [ByteArray.size_append, List.length_cons]
    omega
theorem Good.snoc {l : List Rc} {x : Rc} (h : Good l) (hx : x.1.2.size ≤ 64) : Good (l ++ [x]) := by
  intro y hy
  rcases List.mem_append.1 hy with hy | hy
  · exact h y hy
  · simp at hy; subst hy; exact hx
theorem allG_cat : ∀ (l : List Rc) (n : Nat) (acc : List Rc), l.length ≤ n → (∀ x ∈ l, Okr x) → allG n acc (cat l) = (acc ++ l, 0)
  | [], n, acc, _, _ => by rw [allG_nil _ _ _ rfl]; simp
  | a :: l, 0, acc, h, _ => by simp at h
  | a :: l, n + 1, acc, h, hok => by
    have ha := hok a (List.mem_cons_self ..)
    have ht := rTake_bytes ha (cat l)
    have hp := rBytes_pos ha (cat l)
    simp only [cat]
    rw [allG_more n acc _ hp a (rBytes a).size ht]
    have hf : (rBytes a ++ cat l).extract (rBytes a).size (rBytes a ++ cat l).size = cat l := by
      have := from_app (rBytes a) (cat l)
      unfold from' at this
      rwa [Int.toNat_natCast] at this
    rw [hf, allG_cat l n _ (by simpa using h) (fun x hx => hok x (List.mem_cons_of_mem _ hx))]
    simp
theorem allOf_cat (l : List Rc) (hl : l.length ≤ 64) (h : ∀ x ∈ l, Okr x) : allOf (cat l) = (l, 0) := by
  have := cat_len l (fun x hx => (h x hx).txt)
  unfold allOf
  rw [if_neg (by omega), allG_cat l 64 [] hl h]
  simp
theorem txtOf_len (l : List Rc) : (txtOf l).1.size ≤ 6016 := by
  unfold txtOf
  split
  · exact Nat.zero_le _
  · split
    · next h hg => have := cat_len l hg; simp only; omega
    · exact Nat.zero_le _
end Go.Proofs.Ytdejdcibcihfeaa
