/- Jobs: may one be, its bytes, which one bytes are. No program in this text beyond what it imports. -/
import Derived.Test.YtclcgakfmcofaaaGreatDoorMJ15
import Derived.Test.YtclcgakfmcofaaaGreatDoorMJ17
import Derived.Test.YtclcgakfmcofaaaGreatDoorMJ18
namespace Go.Proofs.YtclcgakfmcofaaaGreatDoor
open Go.RowKit
set_option linter.unusedVariables false
set_option maxRecDepth 100000

/-- A job that may be: its numbers, its program; and its splits. -/
def jobB (j : Jb) (l : List Int) : Bool := decide (1 ≤ j.id ∧ j.id ≤ 1048576) && (decide (j.prog.size ≤ 512) && (wayC j.agg j.bound && (decide (0 ≤ j.fuel ∧ j.fuel ≤ 2000) && (decide (1 ≤ l.length ∧ l.length ≤ 6) && (risL 1 1048576 l && mayP j.parts)))))
structure JobIs (j : Jb) (l : List Int) : Prop where
  id : 1 ≤ j.id ∧ j.id ≤ 1048576
  prog : j.prog.size ≤ 512
  way : wayC j.agg j.bound = true
  fuel : 0 ≤ j.fuel ∧ j.fuel ≤ 2000
  len : 1 ≤ l.length ∧ l.length ≤ 6
  rise : risL 1 1048576 l = true
  parts : mayP j.parts = true
theorem jobB_of {j : Jb} {l : List Int} (h : jobB j l = true) : JobIs j l := by
  unfold jobB at h
  rw [Bool.and_eq_true, Bool.and_eq_true, Bool.and_eq_true, Bool.and_eq_true, Bool.and_eq_true, Bool.and_eq_true, decide_eq_true_eq, decide_eq_true_eq, decide_eq_true_eq, decide_eq_true_eq] at h
  exact ⟨h.1, h.2.1, h.2.2.1, h.2.2.2.1, h.2.2.2.2.1, h.2.2.2.2.2.1, h.2.2.2.2.2.2⟩
theorem jobB_mk {j : Jb} {l : List Int} (h : JobIs j l) : jobB j l = true := by
  unfold jobB
  rw [decide_eq_true h.id, decide_eq_true h.prog, h.way, decide_eq_true h.fuel, decide_eq_true h.len, h.rise, h.parts]
  rfl
/-- Numbers, one behind the other. -/
def numsB : List Int → ByteArray
  | [] => ⟨#[]⟩
  | x :: l => bytesOf x ++ numsB l
theorem numsB_snoc (l : List Int) (x : Int) : numsB (l ++ [x]) = numsB l ++ bytesOf x := by
  induction l with
  | nil => show bytesOf x ++ (⟨#[]⟩ : ByteArray) = (⟨#[]⟩ : ByteArray) ++ bytesOf x; rw [nil_app, app_nil]
  | cons a l ih => show bytesOf a ++ numsB (l ++ [x]) = (bytesOf a ++ numsB l) ++ bytesOf x; rw [ih, app_assoc]
theorem numsB_size (l : List Int) : (numsB l).size ≤ 10 * l.length := by
  induction l with
  | nil => show (0 : Nat) ≤ _; omega
  | cons a l ih =>
    have := bytes_len a
    show (bytesOf a ++ numsB l).size ≤ _
    rw [ByteArray.size_append, List.length_cons]
    omega
/-- A job's bytes. -/
def jobBy (j : Jb) (l : List Int) : ByteArray := numsB [j.id, (j.prog.size : Int)] ++ (j.prog ++ (numsB [j.agg, j.bound, j.fuel, (l.length : Int)] ++ (numsB l ++ numsB [j.parts])))
theorem jobBy_size {j : Jb} {l : List Int} (h : JobIs j l) : (jobBy j l).size ≤ 1000 := by
  have h1 := numsB_size [j.id, (j.prog.size : Int)]
  have h2 := numsB_size [j.agg, j.bound, j.fuel, (l.length : Int)]
  have h3 := numsB_size l
  have h4 := numsB_size [j.parts]
  have h5 := h.prog
  have h6 := h.len
  unfold jobBy
  simp only [ByteArray.size_append, List.length_cons, List.length_nil] at *
  omega

/-! ### Taken -/
/-- What is left to be read, and the first error. -/
abbrev Rd := ByteArray × Int
def jrI (s : Rd) : Int × Rd := if s.2 ≠ 0 then (0, s) else if (takeOf s.1).2.2 ≠ 0 then (0, (s.1, (takeOf s.1).2.2)) else ((takeOf s.1).1, (from' s.1 (takeOf s.1).2.1, 0))
def jrZ (m : Int) (s : Rd) : Int × Rd := if 0 ≤ (jrI s).1 ∧ (jrI s).1 ≤ m then jrI s else (0, ((jrI s).2.1, 7))
def jrX (s : Rd) : ByteArray × Rd :=
  if ((jrZ 512 s).2.1.size : Int) < (jrZ 512 s).1 then (⟨#[]⟩, ((jrZ 512 s).2.1, 6)) else ((jrZ 512 s).2.1.extract 0 (jrZ 512 s).1.toNat, (from' (jrZ 512 s).2.1 (jrZ 512 s).1, (jrZ 512 s).2.2))
def jrK : Nat → Rd → List Int → List Int × Rd
  | 0, s, acc => (acc, s)
  | k + 1, s, acc => jrK k (jrI s).2 (acc ++ [(jrI s).1])
abbrev j00 : Jb := ⟨0, ⟨#[]⟩, 0, 0, 0, 0⟩
def jEnd (j : Jb) (l : List Int) (s : Rd) : (Jb × List Int) × Int := if s.2 ≠ 0 then ((j00, []), s.2) else if 0 < s.1.size ∨ jobB j l = false then ((j00, []), 7) else ((j, l), 0)
/-- Which job bytes are: it, its splits, the error. -/
def jTake (s : ByteArray) : (Jb × List Int) × Int :=
  let a := jrI (s, 0)
  let p := jrX a.2
  let g := jrI p.2
  let b := jrI g.2
  let f := jrI b.2
  let z := jrZ 6 f.2
  let k := jrK z.1.toNat z.2 []
  let q := jrI k.2
  jEnd ⟨a.1, p.1, g.1, b.1, f.1, q.1⟩ k.1 q.2
theorem jrI_bad {s : Rd} (h : s.2 ≠ 0) : jrI s = (0, s) := by unfold jrI; rw [if_pos h]
theorem jrI_err {s : ByteArray} (h : (takeOf s).2.2 ≠ 0) : jrI (s, 0) = (0, (s, (takeOf s).2.2)) := by unfold jrI; rw [if_neg (by simp), if_pos h]
theorem jrI_ok {s : ByteArray} (h : (takeOf s).2.2 = 0) : jrI (s, 0) = ((takeOf s).1, (from' s (takeOf s).2.1, 0)) := by unfold jrI; rw [if_neg (by simp), if_neg (by simpa using h)]
theorem jrZ_bad {m : Int} {s : Rd} (hm : 0 ≤ m) (h : s.2 ≠ 0) : jrZ m s = (0, s) := by unfold jrZ; rw [jrI_bad h]; simp [hm]
theorem jrK_bad : ∀ (k : Nat) {s : Rd} (acc : List Int), s.2 ≠ 0 → ∃ l, jrK k s acc = (l, s)
  | 0, s, acc, _ => ⟨acc, rfl⟩
  | k + 1, s, acc, h => by rw [jrK, jrI_bad h]; exact jrK_bad k _ h
theorem jEnd_bad {j : Jb} {l : List Int} {s : Rd} (h : s.2 ≠ 0) : jEnd j l s = ((j00, []), s.2) := by unfold jEnd; rw [if_pos h]
/-- A number that was written. -/
theorem jrI_bytes {n : Int} (h1 : -9223372036854775808 ≤ n) (h2 : n ≤ 9223372036854775807) (y : ByteArray) : jrI (bytesOf n ++ y, 0) = (n, (y, 0)) := by
  have e := take_bytes n h1 h2 y
  rw [jrI_ok (by rw [e]), e]
  simp only [from_app]
theorem jrZ_bytes {m n : Int} (h0 : 0 ≤ n) (hm : n ≤ m) (h2 : n ≤ 9223372036854775807) (y : ByteArray) : jrZ m (bytesOf n ++ y, 0) = (n, (y, 0)) := by
  unfold jrZ
  rw [jrI_bytes (by omega) h2]
  simp [h0, hm]
theorem jrX_bytes {p : ByteArray} (h : p.size ≤ 512) (y : ByteArray) : jrX (bytesOf (p.size : Int) ++ (p ++ y), 0) = (p, (y, 0)) := by
  unfold jrX
  rw [jrZ_bytes (by omega) (by omega) (by omega)]
  simp only
  rw [if_neg (by rw [ByteArray.size_append]; omega), from_app]
  refine Prod.ext ?_ rfl
  apply ba_ext
  show L _ = L _
  simp [L]
  exact List.take_of_length_le (Nat.le_of_eq rfl)
theorem jrK_bytes : ∀ (l : List Int) (acc : List Int) (y : ByteArray), (∀ x ∈ l, 1 ≤ x ∧ x ≤ 1048576) → jrK l.length (numsB l ++ y, 0) acc = (acc ++ l, (y, 0))
  | [], acc, y, _ => by show (acc, ((⟨#[]⟩ : ByteArray) ++ y, (0 : Int))) = _; rw [nil_app, List.append_nil]
  | a :: l, acc, y, h => by
    have ha := h a (by simp)
    show jrK (l.length + 1) ((bytesOf a ++ numsB l) ++ y, 0) acc = _
    rw [app_assoc, jrK, jrI_bytes (by omega) (by omega), jrK_bytes l _ y (fun x hx => h x (by simp [hx]))]
    simp
/-- What is written is taken. -/
theorem jTake_bytes {j : Jb} {l : List Int} (h : JobIs j l) : jTake (jobBy j l) = ((j, l), 0) := by
  have hw := wayC_bd h.way
  have hp := mayP_of h.parts
  have hr := (risL_of h.rise).1
  have hid := h.id
  have hfu := h.fuel
  have hlen := h.len
  have e0 : ∀ y, numsB [j.id, (j.prog.size : Int)] ++ y = bytesOf j.id ++ (bytesOf (j.prog.size : Int) ++ y) := fun y => by
    show (bytesOf _ ++ (bytesOf _ ++ (⟨#[]⟩ : ByteArray))) ++ y = _
    rw [app_nil, app_assoc]
  have e1 : ∀ y, numsB [j.agg, j.bound, j.fuel, (l.length : Int)] ++ y = bytesOf j.agg ++ (bytesOf j.bound ++ (bytesOf j.fuel ++ (bytesOf (l.length : Int) ++ y))) := fun y => by
    show (bytesOf _ ++ (bytesOf _ ++ (bytesOf _ ++ (bytesOf _ ++ (⟨#[]⟩ : ByteArray))))) ++ y = _
    rw [app_nil, app_assoc, app_assoc, app_assoc]
  have e2 : numsB [j.parts] = bytesOf j.parts ++ ⟨#[]⟩ := rfl
  unfold jTake
  simp only
  unfold jobBy
  rw [e0, e1, e2, jrI_bytes (by omega) (by omega)]
  simp only
  rw [jrX_bytes h.prog]
  simp only
  rw [jrI_bytes (by omega) (by omega)]
  simp only
  rw [jrI_bytes (by omega) (by omega)]
  simp only
  rw [jrI_bytes (by omega) (by omega)]
  simp only
  rw [jrZ_bytes (by omega) (by omega) (by omega)]
  simp only [Int.toNat_natCast]
  rw [jrK_bytes l [] _ hr]
  simp only
  rw [jrI_bytes (by omega) (by omega)]
  simp only [List.nil_append]
  unfold jEnd
  simp only
  rw [if_neg (by simp), if_neg (by rw [jobB_mk h]; rintro (h0 | h0); exact absurd h0 (Nat.lt_irrefl 0); cases h0)]
end Go.Proofs.YtclcgakfmcofaaaGreatDoor
