/- PLAIN FACTS: what is written is taken, whatever stands behind it; cut off anywhere it is cut off; what is taken was written so. -/
import Derived.Test.YtdejdcibcihfeaaB1
namespace Go.Proofs.Ytdejdcibcihfeaa
open Go.RowKit

/-- Numbers below 256 as bytes. -/
def enc (l : List Int) : List UInt8 := l.map fun n => UInt8.ofNat n.toNat
theorem bytesOf_list (n : Int) : (bytesOf n).data.toList = enc (grp 10 (zig n)) := strOfNums_data _
theorem bytesOf_size (n : Int) : (bytesOf n).size = (grp 10 (zig n)).length := strOfNums_size _
theorem byte_of (z : Int) (h0 : 0 ≤ z) (h1 : z < 256) : ((UInt8.ofNat z.toNat).toNat : Int) = z := by rw [UInt8.toNat_ofNat']; omega
theorem byte_ofN (z : Int) (h0 : 0 ≤ z) (h1 : z < 256) : (UInt8.ofNat z.toNat).toNat = z.toNat := by rw [UInt8.toNat_ofNat']; omega

theorem parts (u P : Int) : u * P = u % 128 * P + u / 128 * (P * 128) := by
  have h := Int.emod_add_mul_ediv u 128
  have e : u / 128 * (P * 128) = 128 * (u / 128) * P := by rw [Int.mul_comm P 128, ← Int.mul_assoc, Int.mul_comm (u / 128) 128]
  rw [e, ← Int.add_mul, h]
theorem pow7 (i : Nat) : (2 : Int) ^ (7 * (i + 1)) = 2 ^ (7 * i) * 128 := by rw [show 7 * (i + 1) = 7 * i + 7 by omega, Int.pow_add]; rfl
theorem pow7_pos (i : Nat) : (1 : Int) ≤ 2 ^ (7 * i) := Int.pow_pos (by decide)

/-- There is no tenth byte that goes on. -/
theorem not_nine {i : Nat} {acc u : Int} (h9 : i ≤ 9) (hacc : 0 ≤ acc) (ht : acc + u * 2 ^ (7 * i) ≤ 18446744073709551615) (hu : ¬ u < 128) : i ≠ 9 := by
  rintro rfl
  simp only [Nat.reduceMul, Int.reducePow] at ht
  omega
theorem nine {i : Nat} {acc u : Int} (hacc : 0 ≤ acc) (ht : acc + u * 2 ^ (7 * i) ≤ 18446744073709551615) (h9 : i = 9) : u ≤ 1 := by
  subst h9
  simp only [Nat.reduceMul, Int.reducePow] at ht
  omega

/-- What is written is taken, whatever stands behind it. -/
theorem takes (rest : List UInt8) : ∀ (f i : Nat) (u acc : Int), 0 < f → i ≤ 9 → 0 ≤ u → u < 2 ^ (7 * f) → 0 ≤ acc → acc < 2 ^ (7 * i) → acc + u * 2 ^ (7 * i) ≤ 18446744073709551615 → (u ≠ 0 ∨ i = 0) →
    takeL (enc (grp f u) ++ rest) i acc = (zag (acc + u * 2 ^ (7 * i)), (i : Int) + (grp f u).length, 0) := by
  intro f
  induction f with
  | zero => intro i u acc h; omega
  | succ f ih =>
    intro i u acc _ h9 h0 hu ha0 ha ht hz
    by_cases hl : u < 128
    · rw [grp_last _ _ hl (by omega)]
      have hb : (UInt8.ofNat u.toNat).toNat = u.toNat := byte_ofN u h0 (by omega)
      have hB := byte_of u h0 (by omega)
      show takeL (UInt8.ofNat u.toNat :: ([] ++ rest)) i acc = _
      rw [takeL_end _ _ _ _ (fun h => by have := nine ha0 ht h; omega) (by omega) (by omega), hB, Int.emod_eq_of_lt h0 hl]
      rfl
    · have hi := not_nine h9 ha0 ht hl
      have hf : 0 < f := by
        rcases Nat.eq_zero_or_pos f with rfl | h
        · simp at hu; omega
        · exact h
      rw [grp_more _ _ hl]
      have hb : (UInt8.ofNat (u % 128 + 128).toNat).toNat = (u % 128 + 128).toNat := byte_ofN _ (by omega) (by omega)
      have hB := byte_of (u % 128 + 128) (by omega) (by omega)
      show takeL (UInt8.ofNat (u % 128 + 128).toNat :: (enc (grp f (u / 128)) ++ rest)) i acc = _
      rw [takeL_more _ _ _ _ hi (by omega), hB, show (u % 128 + 128) % 128 = u % 128 by omega]
      have hp := parts u (2 ^ (7 * i))
      have hP := pow7_pos i
      have hP7 := pow7 i
      have hm : 0 ≤ u % 128 * 2 ^ (7 * i) := Int.mul_nonneg (by omega) (by omega)
      have hm' : u % 128 * 2 ^ (7 * i) ≤ 127 * 2 ^ (7 * i) := Int.mul_le_mul_of_nonneg_right (by omega) (by omega)
      have huf : u / 128 < 2 ^ (7 * f) := by
        rw [pow7] at hu
        exact Int.ediv_lt_of_lt_mul (by decide) hu
      have := ih (i + 1) (u / 128) (acc + u % 128 * 2 ^ (7 * i)) hf (by omega) (by omega) huf (by omega) (by rw [hP7]; omega) (by rw [hP7]; omega) (by left; omega)
      rw [this, hP7, Int.add_assoc, ← hp]
      simp only [List.length_cons]
      congr 2
      push_cast
      omega

/-- Cut off anywhere it is cut off. -/
theorem cuts : ∀ (f i t : Nat) (u acc : Int), i ≤ 9 → 0 ≤ u → 0 ≤ acc → acc + u * 2 ^ (7 * i) ≤ 18446744073709551615 → t < (grp f u).length → takeL ((enc (grp f u)).take t) i acc = (0, 0, 6) := by
  intro f
  induction f with
  | zero => intro i t u acc _ _ _ _ h; simp [grp] at h
  | succ f ih =>
    intro i t u acc h9 h0 ha0 ht hlt
    match t with
    | 0 => rfl
    | t + 1 =>
      by_cases hl : u < 128
      · rw [grp_last _ _ hl (by omega)] at hlt; simp at hlt
      · have hi := not_nine h9 ha0 ht hl
        rw [grp_more _ _ hl] at hlt ⊢
        have hb : (UInt8.ofNat (u % 128 + 128).toNat).toNat = (u % 128 + 128).toNat := byte_ofN _ (by omega) (by omega)
        have hB := byte_of (u % 128 + 128) (by omega) (by omega)
        show takeL (UInt8.ofNat (u % 128 + 128).toNat :: (enc (grp f (u / 128))).take t) i acc = _
        rw [takeL_more _ _ _ _ hi (by omega), hB, show (u % 128 + 128) % 128 = u % 128 by omega]
        have hp := parts u (2 ^ (7 * i))
        have hP := pow7_pos i
        have hm : 0 ≤ u % 128 * 2 ^ (7 * i) := Int.mul_nonneg (by omega) (by omega)
        exact ih (i + 1) t (u / 128) _ (by omega) (by omega) (by omega) (by rw [pow7]; omega) (by simpa using hlt)

/-- What is taken was written so. -/
theorem taken : ∀ (l : List UInt8) (i : Nat) (acc : Int), i ≤ 9 → 0 ≤ acc → acc < 2 ^ (7 * i) → (takeL l i acc).2.2 = 0 →
    ∃ u : Int, 0 ≤ u ∧ (u ≠ 0 ∨ i = 0) ∧ acc + u * 2 ^ (7 * i) ≤ 18446744073709551615 ∧ (takeL l i acc).1 = zag (acc + u * 2 ^ (7 * i)) ∧ (takeL l i acc).2.1 = (i : Int) + (grp (10 - i) u).length ∧
      (grp (10 - i) u).length ≤ l.length ∧ l.take (grp (10 - i) u).length = enc (grp (10 - i) u) := by
  intro l
  induction l with
  | nil => intro i acc _ _ _ h; simp [takeL] at h
  | cons c r ih =>
    intro i acc h9 h0 ha he
    have hc := c.toNat_lt
    have hP := pow7_pos i
    by_cases hn : i = 9 ∧ 1 < c.toNat
    · rw [takeL_nine _ _ _ _ hn.1 hn.2] at he; simp at he
    · by_cases hm : 128 ≤ c.toNat
      · have hi : i ≠ 9 := by omega
        rw [takeL_more _ _ _ _ hi hm] at he ⊢
        have hm0 : 0 ≤ (c.toNat : Int) % 128 * 2 ^ (7 * i) := Int.mul_nonneg (by omega) (by omega)
        have hm' : (c.toNat : Int) % 128 * 2 ^ (7 * i) ≤ 127 * 2 ^ (7 * i) := Int.mul_le_mul_of_nonneg_right (by omega) (by omega)
        obtain ⟨u, hu0, huz, hut, h1, h2, h3, h4⟩ := ih (i + 1) _ (by omega) (by omega) (by rw [pow7]; omega) he
        have huz' : u ≠ 0 := by omega
        have e1 : ((c.toNat : Int) % 128 + 128 * u) % 128 = (c.toNat : Int) % 128 := by omega
        have e2 : ((c.toNat : Int) % 128 + 128 * u) / 128 = u := by omega
        have hp := parts ((c.toNat : Int) % 128 + 128 * u) (2 ^ (7 * i))
        rw [e1, e2] at hp
        rw [pow7] at hut h1
        have hg : grp (10 - i) ((c.toNat : Int) % 128 + 128 * u) = (c.toNat : Int) :: grp (10 - (i + 1)) u := by
          rw [show 10 - i = (10 - (i + 1)) + 1 by omega, grp_more _ _ (by omega), e1, e2, show (c.toNat : Int) % 128 + 128 = (c.toNat : Int) by omega]
        refine ⟨(c.toNat : Int) % 128 + 128 * u, by omega, by omega, by rw [hp]; omega, ?_, ?_, ?_, ?_⟩
        · rw [h1, hp, Int.add_assoc]
        · rw [h2, hg, List.length_cons]; push_cast; omega
        · rw [hg, List.length_cons, List.length_cons]; omega
        · rw [hg, List.length_cons, List.take_succ_cons, h4]
          simp [enc]
      · by_cases hz : c.toNat = 0 ∧ 0 < i
        · rw [takeL_zero _ _ _ _ hz.2 hz.1] at he; simp at he
        · rw [takeL_end _ _ _ _ (by omega) (by omega) (by omega)] at he ⊢
          have hg : grp (10 - i) (c.toNat : Int) = [(c.toNat : Int)] := grp_last _ _ (by omega) (by omega)
          rw [show (c.toNat : Int) % 128 = (c.toNat : Int) by omega]
          refine ⟨(c.toNat : Int), by omega, by omega, ?_, rfl, by rw [hg]; rfl, by rw [hg]; simp, by rw [hg]; simp [enc]⟩
          by_cases hi : i = 9
          · subst hi
            simp only [Nat.reduceMul, Int.reducePow] at ha ⊢
            omega
          · have h8 : i ≤ 8 := by omega
            have hmm : (c.toNat : Int) * 2 ^ (7 * i) ≤ 127 * 2 ^ (7 * i) := Int.mul_le_mul_of_nonneg_right (by omega) (by omega)
            have hle : (2 : Int) ^ (7 * i) ≤ 2 ^ 56 := by
              exact_mod_cast Nat.pow_le_pow_right (by decide) (show 7 * i ≤ 56 by omega)
            have : (2 : Int) ^ 56 = 72057594037927936 := by decide
            omega

/-! ### of strings -/
theorem extract_list (s : ByteArray) (t : Nat) : (s.extract 0 t).data.toList = s.data.toList.take t := by
  simp [ByteArray.data_extract]
theorem take_bytes (n : Int) (h1 : -9223372036854775808 ≤ n) (h2 : n ≤ 9223372036854775807) (x : ByteArray) : takeOf (bytesOf n ++ x) = (n, ((bytesOf n).size : Int), 0) := by
  obtain ⟨z0, z1⟩ := zig_bd n h1 h2
  have e : (bytesOf n ++ x).data.toList = enc (grp 10 (zig n)) ++ x.data.toList := by rw [← bytesOf_list]; simp [ByteArray.data_append]
  unfold takeOf
  rw [e, takes x.data.toList 10 0 (zig n) 0 (by decide) (by decide) z0 (by omega) (by decide) (by decide) (by omega) (Or.inr rfl), bytesOf_size]
  simp [zag_zig]
theorem take_cut (n : Int) (h1 : -9223372036854775808 ≤ n) (h2 : n ≤ 9223372036854775807) (t : Nat) (ht : t < (bytesOf n).size) : takeOf ((bytesOf n).extract 0 t) = (0, 0, 6) := by
  obtain ⟨z0, z1⟩ := zig_bd n h1 h2
  unfold takeOf
  rw [extract_list, bytesOf_list]
  exact cuts 10 0 t (zig n) 0 (by decide) z0 (by decide) (by omega) (by rw [← bytesOf_size]; exact ht)
theorem grp_len (f : Nat) : ∀ u : Int, (grp f u).length ≤ f := by
  induction f with
  | zero => intro u; simp [grp]
  | succ f ih =>
    intro u
    unfold grp
    split
    · simp
    · simp [ih]
theorem bytes_len (n : Int) : (bytesOf n).size ≤ 10 := by rw [bytesOf_size]; exact grp_len 10 _
theorem bytes_small (n : Int) (h1 : -64 ≤ n) (h2 : n < 64) : (bytesOf n).size = 1 := by
  rw [bytesOf_size, grp_last 10 _ (by unfold zig; split <;> omega) (by decide)]
  rfl
theorem take_back (x : ByteArray) (m j : Int) (h : takeOf x = (m, j, 0)) :
    ∃ q : Nat, j = (q : Int) ∧ q ≤ x.size ∧ -9223372036854775808 ≤ m ∧ m ≤ 9223372036854775807 ∧ bytesOf m = x.extract 0 q := by
  unfold takeOf at h
  obtain ⟨u, hu0, _, hut, e1, e2, e3, e4⟩ := taken x.data.toList 0 0 (by decide) (by decide) (by decide) (by rw [h])
  rw [h] at e1 e2
  simp only [Nat.mul_zero, Int.pow_zero, Int.mul_one, Int.zero_add, Nat.sub_zero] at e1 e2 e3 e4 hut
  obtain ⟨b1, b2⟩ := zag_bd u hu0 hut
  refine ⟨(grp 10 u).length, by simpa using e2, by simpa using e3, by rw [e1]; exact b1, by rw [e1]; exact b2, ?_⟩
  apply ByteArray.ext
  apply Array.toList_inj.1
  rw [bytesOf_list, extract_list, e4, e1, zig_zag u hu0]
end Go.Proofs.Ytdejdcibcihfeaa
