/- Which cell bytes begin with: the program's. -/
import Derived.Test.YticpaemmdfmbfaaGJoinF
import Derived.Test.YticpaemmdfmbfaaGApp
import Derived.Test.YticpaemmdfmbfaaBytesM
namespace Go.Proofs.Yticpaemmdfmbfaa
open Go.RowKit
set_option linter.unusedVariables false
set_option maxRecDepth 100000

theorem take_fit (s : ByteArray) (h : (takeOf s).2.2 = 0) : ∃ q : Nat, (takeOf s).2.1 = (q : Int) ∧ q ≤ s.size ∧ Num64 (takeOf s).1 := by
  obtain ⟨q, h1, h2, h3, h4, _⟩ := take_back s (takeOf s).1 (takeOf s).2.1 (by rw [← h])
  exact ⟨q, h1, h2, h3, h4⟩
/-- So many numbers, as a set is read. -/
def tSet (bd : Nat) (s : ByteArray) : List Int × Int × Int :=
  if (takeOf s).2.2 ≠ 0 then ([], 0, (takeOf s).2.2) else if (takeOf s).1 < 0 ∨ (bd : Int) < (takeOf s).1 then ([], 0, 7) else rdN (takeOf s).1.toNat s (takeOf s).2.1.toNat []
theorem rdN_err : ∀ (i : Nat) (s : ByteArray) (n : Nat) (acc : List Int), (rdN i s n acc).2.2 ≠ 0 → (rdN i s n acc).1 = [] ∧ (rdN i s n acc).2.1 = 0
  | 0, s, n, acc, h => by simp [rdN] at h
  | i + 1, s, n, acc, h => by
    rw [rdN] at h ⊢
    split at h
    · rename_i h1
      rw [if_pos h1]
      exact ⟨rfl, rfl⟩
    · rename_i h1
      rw [if_neg h1]
      exact rdN_err i s _ _ h
theorem tSet_err {bd : Nat} {s : ByteArray} (h : (tSet bd s).2.2 ≠ 0) : (tSet bd s).1 = [] ∧ (tSet bd s).2.1 = 0 := by
  unfold tSet at h ⊢
  split at h
  · rename_i h1; rw [if_pos h1]; exact ⟨rfl, rfl⟩
  · rename_i h1
    rw [if_neg h1]
    split at h
    · rename_i h2; rw [if_pos h2]; exact ⟨rfl, rfl⟩
    · rename_i h2; rw [if_neg h2]; exact rdN_err _ _ _ _ h
theorem cTake6 (bd : Nat) (s : ByteArray) : cTake 6 bd s = if (tSet bd s).2.2 ≠ 0 then ((0, []), 0, (tSet bd s).2.2) else if mayC 6 bd (0, (tSet bd s).1) = true then ((0, (tSet bd s).1), (tSet bd s).2.1, 0) else ((0, []), 0, 7) := by
  unfold cTake tSet
  by_cases h1 : (takeOf s).2.2 ≠ 0
  · rw [if_pos h1, if_pos h1, if_pos h1]
  · rw [if_neg h1, if_neg h1, if_pos rfl]
    by_cases h2 : (takeOf s).1 < 0 ∨ (bd : Int) < (takeOf s).1
    · rw [if_pos h2, if_pos h2]; rfl
    · rw [if_neg h2, if_neg h2]
theorem cTakeN {agg : Int} (h6 : agg ≠ 6) (bd : Nat) (s : ByteArray) : cTake agg bd s = if (takeOf s).2.2 ≠ 0 then ((0, []), 0, (takeOf s).2.2) else if mayC agg bd ((takeOf s).1, []) = true then (((takeOf s).1, []), (takeOf s).2.1, 0) else ((0, []), 0, 7) := by
  unfold cTake
  by_cases h1 : (takeOf s).2.2 ≠ 0
  · rw [if_pos h1, if_pos h1]
  · rw [if_neg h1, if_neg h1, if_neg h6]
theorem rdN_len : ∀ (i : Nat) (s : ByteArray) (n : Nat) (acc : List Int), (rdN i s n acc).1.length ≤ acc.length + i
  | 0, s, n, acc => by simp [rdN]
  | i + 1, s, n, acc => by
    rw [rdN]
    split
    · simp
    · have := rdN_len i s (n + (takeOf (cFrom s n)).2.1.toNat) (acc ++ [(takeOf (cFrom s n)).1])
      rw [List.length_append, List.length_singleton] at this
      omega
theorem tSet_len (bd : Nat) (s : ByteArray) : (tSet bd s).1.length ≤ bd := by
  unfold tSet
  split
  · simp
  · split
    · simp
    · rename_i h1 h2
      have := rdN_len (takeOf s).1.toNat s (takeOf s).2.1.toNat []
      simp only [List.length_nil, Nat.zero_add] at this
      omega
/-- What holds all along the reading. -/
structure TkR (W0 : World) (s : ByteArray) (m : Nat) (R : List Int × Int × Int) (j n : Nat) (l : List Int) (v : Value) (W : World) : Prop where
  rd : rdN (m - j) s n l = R
  len : l.length = j
  fit : n ≤ s.size
  own : OwnL W W0.heap.size v l
  bel : Below W0.heap.size W0 W
theorem rd_bad {i n : Nat} {s : ByteArray} {l : List Int} {R : List Int × Int × Int} (h : rdN (i + 1) s n l = R) (he : (takeOf (cFrom s n)).2.2 ≠ 0) : R = ([], 0, (takeOf (cFrom s n)).2.2) := by rw [← h, rdN, if_pos he]
theorem rd_good {i n q : Nat} {s : ByteArray} {l : List Int} {R : List Int × Int × Int} (h : rdN (i + 1) s n l = R) (he : ¬ (takeOf (cFrom s n)).2.2 ≠ 0) (hq : (takeOf (cFrom s n)).2.1 = (q : Int)) : rdN i s (n + q) (l ++ [(takeOf (cFrom s n)).1]) = R := by
  rw [rdN, if_neg he, hq, Int.toNat_natCast] at h
  exact h
theorem cFrom_size (s : ByteArray) (n : Nat) : (cFrom s n).size = s.size - n := by
  unfold cFrom
  rw [ByteArray.size_extract]
  omega
abbrev SetR (w : World) (r : List Int × Int × Int) : Ending → World → Prop := fun e w' => (∃ a cap, e = .returned (.tuple #[.slice a r.1.length cap, .int .i64 r.2.1, .int .i64 r.2.2]) ∧ OwnL w' w.heap.size (.slice a r.1.length cap) r.1) ∧ Below w.heap.size w w'
theorem setR_nil {w W : World} {n e0 : Int} (h : Below w.heap.size w W) : SetR w ([], n, e0) (.returned (.tuple #[.slice none 0 0, .int .i64 n, .int .i64 e0])) W := ⟨⟨none, 0, rfl, OwnL.nil _ _⟩, h⟩
set_option maxHeartbeats 800000 in
theorem takeSet_any (bd : Nat) (s : ByteArray) (w : World) (hs : s.size ≤ 1000000000) (hbd : bd ≤ 32) :
    Calls Try.prog 102 #[.int .i64 (bd : Int), .string s] w (SetR w (tSet bd s)) := by
  have H1 := hidM (fun W => take_any s W (by unfold maxLen; omega))
  obtain ⟨m, q, e, ht⟩ : ∃ m q e, takeOf s = (m, q, e) := ⟨_, _, _, rfl⟩
  have hfit := take_fit s
  unfold tSet
  rw [ht] at H1 hfit ⊢
  simp only at *
  by_cases he : e = 0
  · subst he
    obtain ⟨q, rfl, hq, hm⟩ := hfit rfl
    rw [if_neg (by simp), Int.toNat_natCast]
    by_cases h0 : m < 0
    · rw [if_pos (.inl h0)]
      go_enter Try.func102, Try.ntmps102
      go_wp2_with (go_at_call 100; refine (H1.out _).mono ?_; rintro e w' ⟨rfl, rfl⟩)
      go_ret3
      exact setR_nil (Below.refl _ _)
    · by_cases h1 : (bd : Int) < m
      · rw [if_pos (.inr h1)]
        have h0' : 0 ≤ m := by omega
        go_enter Try.func102, Try.ntmps102
        go_wp2_with (go_at_call 100; refine (H1.out _).mono ?_; rintro e w' ⟨rfl, rfl⟩)
        go_ret3
        exact setR_nil (Below.refl _ _)
      · rw [if_neg (by omega)]
        obtain ⟨m, rfl⟩ := Int.eq_ofNat_of_zero_le (show 0 ≤ m by omega)
        rw [Int.toNat_natCast]
        obtain ⟨R, hR⟩ : ∃ R, rdN m s q [] = R := ⟨_, rfl⟩
        rw [hR]
        have HS := hidM (show TkR w s m R 0 q [] (.slice none 0 0) w from ⟨hR, rfl, hq, OwnL.nil _ _, Below.refl _ _⟩)
        have HT := hidM (fun n W => take_any (cFrom s n) W (by rw [cFrom_size]; unfold maxLen; omega))
        have HM := hidM hm
        have hd1 : decide ((m : Int) < 0) = false := by simp
        have hd2 : decide (bd < m) = false := by simp; omega
        clear hR ht hfit hm
        go_enter Try.func102, Try.ntmps102
        go_wp2_with (go_at_call 100; refine (H1.out _).mono ?_; rintro e w' ⟨rfl, hw⟩; obtain rfl := hw.symm)
        go_loopw [4, 5, 28] (fun v n j wr => ∃ (x k : Nat) (l : List Int), k ≤ m ∧ x ≤ s.size ∧ n = .int .i64 (x : Int) ∧ j = .int .i64 (k : Int) ∧ Hid (TkR w s m R k x l v wr)) (fun _ _ j _ => m - (intOf j).toNat)
        case atStart => exact ⟨q, 0, [], by omega, hq, rfl, rfl, HS⟩
        case round =>
          obtain ⟨x, k, l, hk, hx, rfl, rfl, HK⟩ := hrel
          by_cases hlt : k < m
          · have HT' := hidM (HT.out x wr)
            have hrd := HK.out.rd
            obtain ⟨i, hi⟩ : ∃ i, m - k = i + 1 := ⟨m - k - 1, by omega⟩
            rw [hi] at hrd
            have hbad := rd_bad hrd
            have hgood := fun q => rd_good (q := q) hrd
            have hf := take_fit (cFrom s x)
            obtain ⟨t, p, e, ht⟩ : ∃ t p e, takeOf (cFrom s x) = (t, p, e) := ⟨_, _, _, rfl⟩
            rw [ht] at HT' hbad hgood hf
            simp only at HT' hbad hgood hf
            have hs' : s.extract x s.size = cFrom s x := rfl
            clear hrd ht
            by_cases he : e = 0
            · subst he
              obtain ⟨p, rfl, hp, hnum⟩ := hf rfl
              have hgd := hgood p (by simp) rfl
              rw [cFrom_size] at hp
              have HG := hidM hgd
              have HP := hidM hnum
              clear hgood hbad hf hgd hnum
              have hlen := HK.out.len
              have hsum : x + p ≤ s.size := by omega
              go_wp2_with (first | (go_at_call 100; refine HT'.out.mono ?_; rintro e w' ⟨rfl, rfl⟩) | (at_builtin; refine wpApp rfl _ _ rfl rfl rfl HK.out.own (by omega) HK.out.bel.size ?_; intro v' W' ho' hb'))
              go_roundw
              case rel => exact ⟨x + p, k + 1, l ++ [t], by omega, hsum, by go_num, by go_num, by rw [show m - (k + 1) = i by omega]; exact HG.out, by simp; omega, hsum, ho', hb' _ HK.out.bel⟩
              case measure => simp [intOf]; omega
            · have hR := hbad he
              subst hR
              clear hbad hgood hf
              have he' : (e != 0) = true := by simpa using he
              go_wp2_with (go_at_call 100; refine HT'.out.mono ?_; rintro e w' ⟨rfl, rfl⟩)
              go_ret3
              exact setR_nil HK.out.bel
          · obtain rfl : k = m := by omega
            have hrd := HK.out.rd
            rw [Nat.sub_self, rdN] at hrd
            subst hrd
            obtain ⟨a5, c5, rfl⟩ := HK.out.own.shape
            go_wp2
            go_ret3
            exact ⟨⟨_, _, rfl, HK.out.own⟩, HK.out.bel⟩
  · have he' : (e != 0) = true := by simpa using he
    rw [if_pos he]
    clear hfit
    go_enter Try.func102, Try.ntmps102
    go_wp2_with (go_at_call 100; refine (H1.out _).mono ?_; rintro e w' ⟨rfl, rfl⟩)
    go_ret3
    exact setR_nil (Below.refl _ _)
end Go.Proofs.Yticpaemmdfmbfaa
