/- Texts laid together: FFour, FPlain. -/
import Derived.Test.YtejgcflcckjlpaaGreatDoorRows
import Derived.WalkKit
import Derived.WalkSpells
import Derived.Deep.QuietTactic
import Derived.BigQuiet
import Derived.Test.YtejgcflcckjlpaaGreatDoorBC1M
import Derived.Test.YtejgcflcckjlpaaGreatDoorBC31
/- num.Four, num.TakeFour and the page's own: what each answers. -/
namespace Go.Proofs.YtejgcflcckjlpaaGreatDoor
open Go.RowKit
set_option linter.unusedVariables false
set_option maxRecDepth 100000

/-- Four bytes, the highest first. -/
def fourL (l : List UInt8) : Int := ((l.getD 0 0).toNat : Int) * 16777216 + ((l.getD 1 0).toNat : Int) * 65536 + ((l.getD 2 0).toNat : Int) * 256 + ((l.getD 3 0).toNat : Int)
def fourOf (s : ByteArray) : Int := fourL s.data.toList

theorem or_four (a b c d : Int) (a0 : 0 ≤ a) (a1 : a < 256) (b0 : 0 ≤ b) (b1 : b < 256) (c0 : 0 ≤ c) (c1 : c < 256) (d0 : 0 ≤ d) (d1 : d < 256) :
    bits .or .u32 (bits .or .u32 (bits .or .u32 (a * 16777216) (b * 65536)) (c * 256)) d = a * 16777216 + b * 65536 + c * 256 + d := by
  have wr : ∀ n : Int, 0 ≤ n → n < 2 ^ 32 → IntKind.u32.wrap n = n := fun n h h' => IntWalk.u32_in n (by omega)
  rw [bits_join .u32 32 (by decide) wr 24 (a * 16777216) (b * 65536) (by omega) (by omega) (by omega) (by omega) (by omega) (by omega),
    bits_join .u32 32 (by decide) wr 16 (a * 16777216 + b * 65536) (c * 256) (by omega) (by omega) (by omega) (by omega) (by omega) (by omega),
    bits_join .u32 32 (by decide) wr 8 (a * 16777216 + b * 65536 + c * 256) d (by omega) (by omega) (by omega) (by omega) (by omega) (by omega)]

theorem byte_at (s : ByteArray) (i : Nat) (h : i < s.size) : s.data.toList.getD i 0 = s[i] := by
  have : i < s.data.toList.length := by simpa using h
  simp [List.getD, List.getElem?_eq_getElem this]
  rfl

theorem or_fourOf (s : ByteArray) (n0 : 0 < s.size) (n1 : 1 < s.size) (n2 : 2 < s.size) (n3 : 3 < s.size) :
    bits .or .u32 (bits .or .u32 (bits .or .u32 ((s[0].toNat : Int) * 16777216) ((s[1].toNat : Int) * 65536)) ((s[2].toNat : Int) * 256)) (s[3].toNat : Int) = fourOf s := by
  have b0 := s[0].toNat_lt
  have b1 := s[1].toNat_lt
  have b2 := s[2].toNat_lt
  have b3 := s[3].toNat_lt
  rw [or_four _ _ _ _ (by omega) (by omega) (by omega) (by omega) (by omega) (by omega) (by omega) (by omega), fourOf, fourL, byte_at s 0 n0, byte_at s 1 n1, byte_at s 2 n2, byte_at s 3 n3]

/-- The four bytes of a number. -/
def four (n : Int) : ByteArray := strOfNums [n / 16777216, n / 65536 % 256, n / 256 % 256, n % 256]
theorem four_size (n : Int) : (four n).size = 4 := by unfold four; rw [strOfNums_size]; rfl
theorem four_back (n : Int) (h0 : 0 ≤ n) (h1 : n ≤ 4294967295) (x : ByteArray) : fourOf ((four n) ++ x) = n := by
  have e : ((four n) ++ x).data.toList = (four n).data.toList ++ x.data.toList := by simp [ByteArray.data_append]
  unfold fourOf
  rw [e, four, strOfNums_data]
  have t : ∀ z : Int, 0 ≤ z → z < 256 → ((UInt8.ofNat z.toNat).toNat : Int) = z := by
    intro z h h'
    rw [UInt8.toNat_ofNat']
    omega
  simp only [fourL, List.map_cons, List.map_nil, List.cons_append, List.nil_append, List.getD_cons_zero, List.getD_cons_succ]
  rw [t _ (by omega) (by omega), t _ (by omega) (by omega), t _ (by omega) (by omega), t _ (by omega) (by omega)]
  omega

theorem ret2 {k k' : IntKind} {a b a' b' : Int} (h1 : a = a') (h2 : b = b') : Ending.returned (.tuple #[.int k a, .int k' b]) = .returned (.tuple #[.int k a', .int k' b']) := by rw [h1, h2]

theorem four_any (n : Int) (w : World) (h0 : 0 ≤ n) (h1 : n ≤ 4294967295) :
    Calls Tryz.prog 40 #[.int .u32 n] w fun e w' => e = .returned (.string (four n)) ∧ Below w.heap.size w w' := by
  have hcv := run_convert_bytes_arg (P := Tryz.prog) (w.alloc (.cells #[.int .u8 (n / 16777216), .int .u8 (n / 65536 % 256), .int .u8 (n / 256 % 256), .int .u8 (n % 256)] 5)) 57 5 Tryz.underlying57 Tryz.underlying5 w.heap.size 0 4 4 [n / 16777216, n / 65536 % 256, n / 256 % 256, n % 256] rfl (by
    intro i hi
    match i, hi with
    | 0, _ => simp
    | 1, _ => simp
    | 2, _ => simp
    | 3, _ => simp) 9 Tryz.underlying9
  go_enter Tryz.func40, Tryz.ntmps40
  go_wp2
  go_ret
  exact ⟨rfl, (Below.refl _ _).alloc (Nat.le_refl _) _⟩
theorem takeFour_ok (s : ByteArray) (w : World) (hs : s.size ≤ maxLen) (h4 : 4 ≤ s.size) :
    Calls Tryz.prog 56 #[.string s] w fun e w' => e = .returned (.tuple #[.int .u32 (fourOf s), .int .i64 0]) ∧ ∃ q, w' = w.drewN q := by
  have g0 : (0 : Int) < s.size := by omega
  have g1 : (1 : Int) < s.size := by omega
  have g2 : (2 : Int) < s.size := by omega
  have g3 : (3 : Int) < s.size := by omega
  have n0 : 0 < s.size := by omega
  have n1 : 1 < s.size := by omega
  have n2 : 2 < s.size := by omega
  have n3 : 3 < s.size := by omega
  have b0 : s[0].toNat < 256 := s[0].toNat_lt
  have b1 : s[1].toNat < 256 := s[1].toNat_lt
  have b2 : s[2].toNat < 256 := s[2].toNat_lt
  have b3 : s[3].toNat < 256 := s[3].toNat_lt
  have H : Hid (_ = fourOf s) := or_fourOf s n0 n1 n2 n3
  go_enter Tryz.func56, Tryz.ntmps56
  go_wp2
  go_quiet (fail)
  go_wp2
  go_ret2
  exact ⟨congrArg (fun z => Ending.returned (.tuple #[.int .u32 z, .int .i64 0])) H.out, nq, rfl⟩
theorem takeFour_cut (s : ByteArray) (w : World) (h4 : s.size < 4) :
    Calls Tryz.prog 56 #[.string s] w fun e w' => e = .returned (.tuple #[.int .u32 0, .int .i64 6]) ∧ w' = w := by
  go_enter Tryz.func56, Tryz.ntmps56
  go_wp2
  go_ret2
  exact ⟨rfl, rfl⟩
theorem below_draws (w : World) : ∀ q, Below w.heap.size w (w.drewN q)
  | 0 => Below.refl _ _
  | q + 1 => (below_draws w q).drew
theorem takeFour_in (s : ByteArray) (w : World) (hs : s.size ≤ maxLen) (h4 : 4 ≤ s.size) :
    Calls Tryz.prog 56 #[.string s] w fun e w' => e = .returned (.tuple #[.int .u32 (fourOf s), .int .i64 0]) ∧ Below w.heap.size w w' :=
  (takeFour_ok s w hs h4).mono fun e w' ⟨he, q, hq⟩ => ⟨he, hq ▸ below_draws w q⟩
end Go.Proofs.YtejgcflcckjlpaaGreatDoor
/- PLAIN FACTS on frames: what Bytes, Take and Scan compute; that what was framed is taken; that what is cut off is cut off; that a turned bit is told. -/
namespace Go.Proofs.YtejgcflcckjlpaaGreatDoor
set_option linter.unusedVariables false
set_option maxRecDepth 100000

def fSum (s : ByteArray) : Int := wd (crc (L s))
theorem fSum_lt (s : ByteArray) : 0 ≤ fSum s ∧ fSum s ≤ 4294967295 := wd_lt _
def frameOf (s : ByteArray) : ByteArray := four (s.size : Int) ++ four (fSum (four (s.size : Int) ++ s)) ++ s
theorem frame_size (s : ByteArray) : (frameOf s).size = 8 + s.size := by
  unfold frameOf; rw [ByteArray.size_append, ByteArray.size_append, four_size, four_size]
theorem fourOf_nat (s : ByteArray) : ∃ n : Nat, fourOf s = (n : Int) ∧ n ≤ 4294967295 := by
  unfold fourOf fourL
  have h0 := (s.data.toList.getD 0 0).toNat_lt
  have h1 := (s.data.toList.getD 1 0).toNat_lt
  have h2 := (s.data.toList.getD 2 0).toNat_lt
  have h3 := (s.data.toList.getD 3 0).toNat_lt
  exact ⟨(s.data.toList.getD 0 0).toNat * 16777216 + (s.data.toList.getD 1 0).toNat * 65536 + (s.data.toList.getD 2 0).toNat * 256 + (s.data.toList.getD 3 0).toNat, by omega, by omega⟩

/-- What Take tells. -/
def fTake (s : ByteArray) : ByteArray × Int × Int :=
  if s.size < 8 then (⟨#[]⟩, 0, 6)
  else if 32768 < fourOf s then (⟨#[]⟩, 0, 2)
  else if (s.size : Int) < 8 + fourOf s then (⟨#[]⟩, 0, 6)
  else if fSum (s.extract 0 4 ++ s.extract 8 (8 + fourOf s).toNat) ≠ fourOf (s.extract 4 s.size) then (⟨#[]⟩, 0, 8)
  else (s.extract 8 (8 + fourOf s).toNat, 8 + fourOf s, 0)
theorem fTake_short {s : ByteArray} (h : s.size < 8) : fTake s = (⟨#[]⟩, 0, 6) := by unfold fTake; rw [if_pos h]
theorem fTake_over {s : ByteArray} {n : Nat} (h : ¬ s.size < 8) (hn : fourOf s = (n : Int)) (h1 : 32768 < n) : fTake s = (⟨#[]⟩, 0, 2) := by
  unfold fTake; rw [if_neg h, hn, if_pos (by omega)]
theorem fTake_cut {s : ByteArray} {n : Nat} (h : ¬ s.size < 8) (hn : fourOf s = (n : Int)) (h1 : ¬ 32768 < n) (h2 : s.size < 8 + n) : fTake s = (⟨#[]⟩, 0, 6) := by
  unfold fTake; rw [if_neg h, hn, if_neg (by omega), if_pos (by omega)]
theorem toN (n : Nat) : (8 + (n : Int)).toNat = 8 + n := by omega
theorem fTake_sum {s : ByteArray} {n : Nat} (h : ¬ s.size < 8) (hn : fourOf s = (n : Int)) (h1 : ¬ 32768 < n) (h2 : ¬ s.size < 8 + n) (h3 : fSum (s.extract 0 4 ++ s.extract 8 (8 + n)) ≠ fourOf (s.extract 4 s.size)) : fTake s = (⟨#[]⟩, 0, 8) := by
  unfold fTake; rw [if_neg h, hn, if_neg (by omega), if_neg (by omega), toN, if_pos h3]
theorem fTake_ok {s : ByteArray} {n : Nat} (h : ¬ s.size < 8) (hn : fourOf s = (n : Int)) (h1 : ¬ 32768 < n) (h2 : ¬ s.size < 8 + n) (h3 : fSum (s.extract 0 4 ++ s.extract 8 (8 + n)) = fourOf (s.extract 4 s.size)) : fTake s = (s.extract 8 (8 + n), 8 + (n : Int), 0) := by
  unfold fTake; rw [if_neg h, hn, if_neg (by omega), if_neg (by omega), toN, if_neg (by simpa using h3)]
/-- How many bytes are taken. -/
theorem fq {s t : ByteArray} {j : Int} (h : fTake s = (t, j, 0)) : ∃ q : Nat, j = (q : Int) ∧ 8 ≤ q ∧ q ≤ s.size ∧ t.size ≤ 32768 := by
  obtain ⟨n, hn, _⟩ := fourOf_nat s
  by_cases h0 : s.size < 8
  · rw [fTake_short h0] at h; injection h with _ h; injection h with _ h; exact absurd h (by decide)
  by_cases h1 : 32768 < n
  · rw [fTake_over h0 hn h1] at h; injection h with _ h; injection h with _ h; exact absurd h (by decide)
  by_cases h2 : s.size < 8 + n
  · rw [fTake_cut h0 hn h1 h2] at h; injection h with _ h; injection h with _ h; exact absurd h (by decide)
  by_cases h3 : fSum (s.extract 0 4 ++ s.extract 8 (8 + n)) = fourOf (s.extract 4 s.size)
  · rw [fTake_ok h0 hn h1 h2 h3] at h
    injection h with ht h; injection h with h _
    refine ⟨8 + n, by omega, by omega, by omega, ?_⟩
    rw [← ht, ByteArray.size_extract]; omega
  · rw [fTake_sum h0 hn h1 h2 h3] at h; injection h with _ h; injection h with _ h; exact absurd h (by decide)

/-! ### Pieces of a frame -/
theorem ext_zero (a b : ByteArray) : (a ++ b).extract 0 a.size = a := by
  apply ba_ext; show L _ = L _
  rw [L_ext, L_app, List.drop_zero, Nat.sub_zero, ← L_len a, List.take_left]
theorem ext_tail (a b : ByteArray) : (a ++ b).extract a.size (a ++ b).size = b := by
  have := from_app a b
  unfold from' at this
  rwa [Int.toNat_natCast] at this
theorem frame_back (s x : ByteArray) (h : s.size ≤ 32768) : fTake (frameOf s ++ x) = (s, ((8 + s.size : Nat) : Int), 0) := by
  have e : frameOf s ++ x = four (s.size : Int) ++ (four (fSum (four (s.size : Int) ++ s)) ++ (s ++ x)) := by unfold frameOf; simp only [app_assoc]
  have hsz : (frameOf s ++ x).size = 8 + s.size + x.size := by rw [ByteArray.size_append, frame_size]
  have hn : fourOf (frameOf s ++ x) = (s.size : Int) := by rw [e]; exact four_back _ (by omega) (by omega) _
  have e0 : (frameOf s ++ x).extract 0 4 = four (s.size : Int) := by
    rw [e]; have := ext_zero (four (s.size : Int)) (four (fSum (four (s.size : Int) ++ s)) ++ (s ++ x)); rwa [four_size] at this
  have e4 : (frameOf s ++ x).extract 4 (frameOf s ++ x).size = four (fSum (four (s.size : Int) ++ s)) ++ (s ++ x) := by
    rw [e]; have := ext_tail (four (s.size : Int)) (four (fSum (four (s.size : Int) ++ s)) ++ (s ++ x)); rwa [four_size] at this
  have e8 : (frameOf s ++ x).extract 8 (8 + s.size) = s := by
    have h1 : frameOf s ++ x = (four (s.size : Int) ++ four (fSum (four (s.size : Int) ++ s))) ++ (s ++ x) := by unfold frameOf; simp only [app_assoc]
    have := ext_mid (four (s.size : Int) ++ four (fSum (four (s.size : Int) ++ s))) s x
    rw [ByteArray.size_append, four_size, four_size] at this
    rw [h1]; exact this
  have l := fSum_lt (four (s.size : Int) ++ s)
  rw [fTake_ok (n := s.size) (by omega) hn (by omega) (by omega) (by rw [e0, e4, e8, four_back _ l.1 l.2]), e8]
  simp
/-- A beginning of a frame, too short, whatever stood behind it. -/
theorem frame_cut (s x : ByteArray) (h : s.size ≤ 32768) (j : Nat) (hj : j < 8 + s.size) : fTake ((frameOf s ++ x).extract 0 j) = (⟨#[]⟩, 0, 6) := by
  have hsz : ((frameOf s ++ x).extract 0 j).size = j := by rw [ByteArray.size_extract, ByteArray.size_append, frame_size]; omega
  by_cases h8 : j < 8
  · exact fTake_short (by omega)
  · have e : (frameOf s ++ x).extract 0 j = four (s.size : Int) ++ (four (fSum (four (s.size : Int) ++ s)) ++ (s ++ x)).extract 0 (j - 4) := by
      have h1 : frameOf s ++ x = four (s.size : Int) ++ (four (fSum (four (s.size : Int) ++ s)) ++ (s ++ x)) := by unfold frameOf; simp only [app_assoc]
      rw [h1, ext_app _ _ _ (by rw [four_size]; omega), four_size]
    have hn : fourOf ((frameOf s ++ x).extract 0 j) = (s.size : Int) := by rw [e]; exact four_back _ (by omega) (by omega) _
    exact fTake_cut (n := s.size) (by omega) hn (by omega) (by omega)

/-! ### Scan -/
/-- Take what stands from a on, behind acc, n more at most. -/
def scanG : Nat → List ByteArray → Nat → ByteArray → List ByteArray × Nat
  | 0, acc, a, s => (acc, a)
  | n + 1, acc, a, s => if (fTake (s.extract a s.size)).2.2 ≠ 0 then (acc, a) else scanG n (acc ++ [(fTake (s.extract a s.size)).1]) (a + (fTake (s.extract a s.size)).2.1.toNat) s
def scanOf (s : ByteArray) : List ByteArray × Nat := scanG (s.size + 1) [] 0 s
theorem scanG_end (n : Nat) (acc : List ByteArray) (a : Nat) (s t : ByteArray) (j e : Int) (ht : fTake (s.extract a s.size) = (t, j, e)) (he : e ≠ 0) : scanG (n + 1) acc a s = (acc, a) := by
  unfold scanG; rw [ht]; simp only [ne_eq, he, not_false_eq_true, if_true]
theorem scanG_more (n : Nat) (acc : List ByteArray) (a : Nat) (s t : ByteArray) (q : Nat) (ht : fTake (s.extract a s.size) = (t, (q : Int), 0)) : scanG (n + 1) acc a s = scanG n (acc ++ [t]) (a + q) s := by
  conv => lhs; unfold scanG
  rw [ht]; simp only [ne_eq, not_true_eq_false, if_false, Int.toNat_natCast]
theorem scanG_len : ∀ (n : Nat) (acc : List ByteArray) (a : Nat) (s : ByteArray), acc.length * 8 ≤ a → a ≤ s.size → (scanG n acc a s).1.length * 8 ≤ (scanG n acc a s).2 ∧ (scanG n acc a s).2 ≤ s.size
  | 0, acc, a, s, h, h1 => ⟨h, h1⟩
  | n + 1, acc, a, s, h, h1 => by
    obtain ⟨t, j, e, ht⟩ : ∃ t j e, fTake (s.extract a s.size) = (t, j, e) := ⟨_, _, _, rfl⟩
    by_cases he : e = 0
    · subst he
      obtain ⟨q, rfl, hq8, hqs, _⟩ := fq ht
      rw [ByteArray.size_extract] at hqs
      rw [scanG_more n acc a s t q ht]
      exact scanG_len n _ _ s (by simp; omega) (by omega)
    · rw [scanG_end n acc a s t j e ht he]
      exact ⟨h, h1⟩
theorem scanOf_len (s : ByteArray) : (scanOf s).1.length * 8 ≤ (scanOf s).2 ∧ (scanOf s).2 ≤ s.size := scanG_len _ _ _ _ (by simp) (by omega)
end Go.Proofs.YtejgcflcckjlpaaGreatDoor
