/- The edges: programs at each limit, and malformed ones, read by how the page reads numbers. No program in this text. -/
import Derived.Test.YtaaijlkjbmpegaaDoorLReadL
namespace Go.Proofs.YtaaijlkjbmpegaaDoor
open Go.Lib
set_option linter.unusedVariables false
set_option maxRecDepth 100000

def opR (w : List UInt8) : Option (Int × Int) :=
  match kindOf w with
  | some k => some ((k : Int), 0)
  | none => (refNum w).map fun n => (1, n)
theorem opR_eq (w : List UInt8) : opR w = opW w := by unfold opR opW; rw [refNum_eq]; cases kindOf w <;> rfl
def plR : Nat → Nat → List (List UInt8) → Nat → Option Rs
  | 0, _, _, _ => none
  | _ + 1, d, [], m => some (if 0 < d then .err 6 else .ok .nil [] m)
  | fu + 1, d, w :: ws, m =>
    if w = shutW ∧ 0 < d then some (.ok .nil ws m)
    else match opR w with
      | none => some (.err 7)
      | some (k, n) =>
        if m = 128 then some (.err 2)
        else if hasB k then
          match ws with
          | [] => some (.err 6)
          | x :: ws' =>
            if x ≠ openW then some (.err 7)
            else if 6 < d + 1 then some (.err 2)
            else match plR fu (d + 1) ws' (m + 1) with
              | none => none
              | some (.err e) => some (.err e)
              | some (.ok b ws2 m2) => (plR fu d ws2 m2).map (Rs.pre (one k n b))
        else (plR fu d ws (m + 1)).map (Rs.pre (one k n .nil))
theorem plR_eq : ∀ (fu d : Nat) (ws : List (List UInt8)) (m : Nat), plR fu d ws m = pl fu d ws m := by
  intro fu
  induction fu with
  | zero => intro d ws m; cases ws <;> simp [plR, pl]
  | succ fu ih =>
    intro d ws m
    cases ws with
    | nil => rfl
    | cons w ws =>
      unfold plR pl
      rw [opR_eq]
      simp only [ih]
      rfl
/-- The error that is told: 0: none. -/
def errR : Option Rs → Int
  | some (.err e) => e
  | some (.ok _ _ _) => 0
  | none => -1
/-- What a text is told by. -/
def errT (l : List UInt8) : Int := errR (plR 300 0 (splitG [] l) 0)
theorem prog_err {s : ByteArray} {r : Rs} {c : Int} (h : Prog s r) (hs : s.size ≤ 512) (hc : errT (L s) = c) (h0 : 0 < c) : r = .err c := by
  unfold errT at hc
  cases hp : plR 300 0 (splitG [] (L s)) 0 with
  | none => rw [hp] at hc; simp [errR] at hc; omega
  | some r' =>
    rw [hp] at hc
    rw [plR_eq] at hp
    have h' : Prog s r' := by unfold Prog; rw [if_neg (by omega)]; exact ⟨300, hp⟩
    obtain rfl := h.unique h'
    cases r with
    | err e => simp [errR] at hc; rw [hc]
    | ok f ws m => simp [errR] at hc; omega
def okT (l : List UInt8) : Bool := match plR 300 0 (splitG [] l) 0 with
  | some (.ok _ _ _) => true
  | _ => false
theorem prog_good {s : ByteArray} {r : Rs} (h : Prog s r) (hs : s.size ≤ 512) (hc : okT (L s) = true) : ∃ f ws m, r = .ok f ws m := by
  unfold okT at hc
  cases hp : plR 300 0 (splitG [] (L s)) 0 with
  | none => rw [hp] at hc; simp at hc
  | some r' =>
    rw [hp] at hc
    rw [plR_eq] at hp
    have h' : Prog s r' := by unfold Prog; rw [if_neg (by omega)]; exact ⟨300, hp⟩
    have e := h.unique h'
    subst e
    cases r with
    | err e => simp at hc
    | ok f ws m => exact ⟨f, ws, m, rfl⟩
/-- u, n times. -/
def reps (u : List UInt8) : Nat → List UInt8
  | 0 => []
  | n + 1 => reps u n ++ u
theorem reps_len (u : List UInt8) (n : Nat) : (reps u n).length = n * u.length := by
  induction n with
  | zero => simp [reps]
  | succ n ih => rw [reps, List.length_append, ih, Nat.succ_mul]
def opsL : List UInt8 := reps [97, 32] 128
def deepL : List UInt8 := reps [105, 102, 32, 91, 32] 6
def shutL : List UInt8 := reps [93, 32] 6
def goodL : List (List UInt8) := [[], [32], opsL, deepL ++ shutL, [57, 50, 50, 51, 51, 55, 50, 48, 51, 54, 56, 53, 52, 55, 55, 53, 56, 48, 55, 32, 45, 57, 50, 50, 51, 51, 55, 50, 48, 51, 54, 56, 53, 52, 55, 55, 53, 56, 48, 56], [114, 101, 112, 32, 91, 32, 93]]
def badL : List (List UInt8) := [opsL ++ [97], deepL ++ [105, 102, 32, 91, 32, 93, 32] ++ shutL, [], [98], [48, 49], [45, 48], [43, 49], [57, 50, 50, 51, 51, 55, 50, 48, 51, 54, 56, 53, 52, 55, 55, 53, 56, 48, 56], [105, 102], [105, 102, 32, 97, 32, 93], [93], [91], [105, 102, 32, 91], [114, 101, 112, 32, 91, 32, 97], [65], [49, 45]]
def wantL : List Int := [2, 2, 2, 7, 7, 7, 7, 7, 6, 7, 7, 7, 6, 6, 7, 7]
theorem good_ok : ∀ i : Fin 6, okT (goodL.getD i.val []) = true ∧ (goodL.getD i.val []).length ≤ 512 := by decide +kernel
theorem bad_ok : ∀ i : Fin 16, i.val ≠ 2 → errT (badL.getD i.val []) = wantL.getD i.val 0 ∧ (badL.getD i.val []).length ≤ 512 ∧ 0 < wantL.getD i.val 0 := by decide +kernel
theorem good_at (j : Nat) (x : ByteArray) (h : (goodL.map ba)[j]? = some x) : x.size ≤ 512 ∧ okT (L x) = true := by
  have hj : j < 6 := by have := (List.getElem?_eq_some_iff.1 h).1; simpa [goodL] using this
  have hg := good_ok ⟨j, hj⟩
  rw [List.getElem?_map, List.getElem?_eq_getElem (show j < goodL.length from hj)] at h
  simp at h
  subst h
  simp only [List.getD_eq_getElem?_getD, List.getElem?_eq_getElem (show j < goodL.length from hj), Option.getD_some] at hg
  rw [L_ba, ← L_len, L_ba]
  exact ⟨hg.2, hg.1⟩
theorem bad_len (zs : ByteArray) (hz : zs.size ≤ 600) (j : Nat) (x : ByteArray) (h : ((badL.map ba).set 2 zs)[j]? = some x) : x.size ≤ 600 := by
  have hj : j < 16 := by have := (List.getElem?_eq_some_iff.1 h).1; simpa [badL] using this
  by_cases h2 : j = 2
  · subst h2
    rw [List.getElem?_set_self (by decide)] at h
    injection h with h
    subst h
    exact hz
  · rw [List.getElem?_set_ne (fun e => h2 e.symm)] at h
    have hg := bad_ok ⟨j, hj⟩ h2
    rw [List.getElem?_map, List.getElem?_eq_getElem (show j < badL.length from hj)] at h
    simp at h
    subst h
    simp only [List.getD_eq_getElem?_getD (l := badL), List.getElem?_eq_getElem (show j < badL.length from hj), Option.getD_some] at hg
    rw [← L_len, L_ba]
    omega
theorem bad_at (zs : ByteArray) (hz : 512 < zs.size) (j : Nat) (x : ByteArray) (h : ((badL.map ba).set 2 zs)[j]? = some x) (r : Rs) (hr : Prog x r) : r = .err (wantL.getD j 0) := by
  have hj : j < 16 := by have := (List.getElem?_eq_some_iff.1 h).1; simpa [badL] using this
  by_cases h2 : j = 2
  · subst h2
    rw [List.getElem?_set_self (by decide)] at h
    injection h with h
    subst h
    unfold Prog at hr
    rw [if_pos hz] at hr
    rw [hr]
    rfl
  · rw [List.getElem?_set_ne (fun e => h2 e.symm)] at h
    have hg := bad_ok ⟨j, hj⟩ h2
    rw [List.getElem?_map, List.getElem?_eq_getElem (show j < badL.length from hj)] at h
    simp at h
    subst h
    simp only [List.getD_eq_getElem?_getD (l := badL), List.getElem?_eq_getElem (show j < badL.length from hj), Option.getD_some] at hg
    exact prog_err hr (by rw [← L_len, L_ba]; exact hg.2.1) (by rw [L_ba]; exact hg.1) hg.2.2
end Go.Proofs.YtaaijlkjbmpegaaDoor
