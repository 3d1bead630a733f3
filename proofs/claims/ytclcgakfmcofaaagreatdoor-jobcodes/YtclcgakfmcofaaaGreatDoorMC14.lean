/- Texts laid together: Crc, CrcInt, FFour, FPlain. -/
import Derived.WalkKit
import Derived.Laws.BitsAllLaws
import Derived.Test.YtclcgakfmcofaaaGreatDoorRows
import Derived.WalkSpells
import Derived.Deep.QuietTactic
import Derived.BigQuiet
import Derived.Test.YtclcgakfmcofaaaGreatDoorMC1
namespace Go.Proofs.YtclcgakfmcofaaaGreatDoor
def poly : BitVec 32 := 0xedb88320#32
def step1 (s : BitVec 32) : BitVec 32 := if s.getLsbD 0 then (s >>> 1) ^^^ poly else s >>> 1
def step8 (s : BitVec 32) : BitVec 32 := step1 (step1 (step1 (step1 (step1 (step1 (step1 (step1 s)))))))
def low (b : UInt8) : BitVec 32 := BitVec.ofNat 32 b.toNat
def crcFrom : BitVec 32 → List UInt8 → BitVec 32
 | s, [] => s
 | s, b :: l => crcFrom (step8 (s ^^^ low b)) l
def crc (l : List UInt8) : BitVec 32 := ~~~ crcFrom (BitVec.allOnes 32) l
theorem step1_xor (s t : BitVec 32) : step1 (s ^^^ t) = step1 s ^^^ step1 t := by
 unfold step1
 rw [BitVec.ushiftRight_xor_distrib, BitVec.getLsbD_xor]
 cases hs : s.getLsbD 0 <;> cases ht : t.getLsbD 0 <;> simp
 ·rw [BitVec.xor_assoc]
 ·rw [BitVec.xor_assoc, BitVec.xor_assoc]; congr 1; rw [BitVec.xor_comm]
 ·have : s >>> 1 ^^^ poly ^^^ (t >>> 1 ^^^ poly) = s >>> 1 ^^^ t >>> 1 ^^^ (poly ^^^ poly) := by ac_rfl
  rw [this]; simp
end Go.Proofs.YtclcgakfmcofaaaGreatDoor
namespace Go.Proofs.YtclcgakfmcofaaaGreatDoor
set_option linter.unusedVariables false
set_option maxRecDepth 100000
def wd (x : BitVec 32) : Int := ((x.toNat : Nat) : Int)
theorem wd_lt (x : BitVec 32) : 0 ≤ wd x ∧ wd x ≤ 4294967295 := by
 have := x.isLt
 unfold wd
 omega
theorem wd_xor (x y : BitVec 32) : bits .xor .u32 (wd x) (wd y) = wd (x ^^^ y) := by
 have h1 := x.isLt
 have h2 := y.isLt
 unfold wd
 rw [u32_xor_nat _ _ (by omega) (by omega), BitVec.toNat_xor]
theorem wd_low (b : UInt8) : ((b.toNat : Nat) : Int) = wd (low b) := by
 have := b.toNat_lt
 unfold wd low
 rw [BitVec.toNat_ofNat]
 omega
theorem wd_xor_byte (x : BitVec 32) (b : UInt8) : bits .xor .u32 (wd x) ((b.toNat : Nat) : Int) = wd (x ^^^ low b) := by rw [wd_low, wd_xor]
theorem wd_ones : (4294967295 : Int) = wd (BitVec.allOnes 32) := by decide
theorem wd_poly : (3988292384 : Int) = wd poly := by decide
theorem wd_not (x : BitVec 32) : bits .xor .u32 4294967295 (wd x) = wd (~~~ x) := by
 rw [wd_ones, wd_xor]
 congr 1
theorem wd_shr (x : BitVec 32) (k : Nat) : wd x / 2 ^ k = wd (x >>> k) := by
 unfold wd
 rw [BitVec.toNat_ushiftRight, Nat.shiftRight_eq_div_pow]
 simp
theorem wd_and1 (x : BitVec 32) : bits .and .u32 (wd x) 1 = wd (x &&& 1#32) := by
 have h1 := x.isLt
 have e : (1 : Int) = ((1 : Nat) : Int) := rfl
 unfold wd
 rw [e, u32_and_nat _ _ (by omega) (by omega), BitVec.toNat_and]
 rfl
theorem wd_bit (x : BitVec 32) : wd (x &&& 1#32) = if x.getLsbD 0 then 1 else 0 := by
 unfold wd
 rw [BitVec.toNat_and, show x.getLsbD 0 = x.toNat.testBit 0 from rfl, Nat.testBit_zero]
 have : (1#32).toNat = 1 := rfl
 rw [this, Nat.and_one_is_mod]
 split <;> rename_i h <;> simp at h <;> omega
def step4 (s : BitVec 32) : BitVec 32 := step1 (step1 (step1 (step1 s)))
theorem step8_two (s : BitVec 32) : step8 s = step4 (step4 s) := rfl
theorem step4_xor (s t : BitVec 32) : step4 (s ^^^ t) = step4 s ^^^ step4 t := by simp only [step4, step1_xor]
theorem step1_even (s : BitVec 32) (h : s.getLsbD 0 = false) : step1 s = s >>> 1 := by unfold step1; rw [h]; rfl
theorem step4_high (s : BitVec 32) (h : s.toNat % 16 = 0) : step4 s = s >>> 4 := by
 have sh : ∀ k, (s >>> k).getLsbD 0 = s.getLsbD k := by intro k; simp
 have b : ∀ k, k < 4 → s.getLsbD k = false := by
  intro k hk
  show s.toNat.testBit k = false
  rw [Nat.testBit_eq_decide_div_mod_eq]
  match k, hk with
  | 0, _ => simp; omega
  | 1, _ => simp; omega
  | 2, _ => simp; omega
  | 3, _ => simp; omega
 unfold step4
 rw [step1_even s (b 0 (by omega)), step1_even (s >>> 1) (by rw [sh]; exact b 1 (by omega)), ← BitVec.shiftRight_add, step1_even (s >>> (1 + 1)) (by rw [sh]; exact b 2 (by omega)), ← BitVec.shiftRight_add,
  step1_even (s >>> (1 + 1 + 1)) (by rw [sh]; exact b 3 (by omega)), ← BitVec.shiftRight_add]
def half (k : Nat) : BitVec 32 := step4 (BitVec.ofNat 32 k)
theorem half_small : ∀ k : Fin 16, (BitVec.ofNat 32 k.val) >>> 4 = 0#32 := by decide
theorem step4_table (s : BitVec 32) : (s >>> 4) ^^^ half (s.toNat % 16) = step4 s := by
 have hl := s.isLt
 generalize hn : BitVec.ofNat 32 (s.toNat % 16) = n
 have nn : n.toNat = s.toNat % 16 := by rw [← hn, BitVec.toNat_ofNat]; omega
 have e : s = (s ^^^ n) ^^^ n := by rw [BitVec.xor_assoc]; simp
 have hz : (s ^^^ n).toNat % 16 = 0 := by
  rw [BitVec.toNat_xor, nn, show (16 : Nat) = 2 ^ 4 from rfl, Nat.xor_mod_two_pow]
  simp
 have h0 : n >>> 4 = 0#32 := by
  rw [← hn]
  exact half_small ⟨s.toNat % 16, Nat.mod_lt _ (by decide)⟩
 have h1 : (s ^^^ n) >>> 4 = s >>> 4 := by rw [BitVec.ushiftRight_xor_distrib, h0]; simp
 unfold half
 rw [hn]
 conv => rhs; rw [e, step4_xor, step4_high _ hz, h1]
end Go.Proofs.YtclcgakfmcofaaaGreatDoor
namespace Go.Proofs.YtclcgakfmcofaaaGreatDoor
open Go.RowKit
set_option linter.unusedVariables false
set_option maxRecDepth 100000
def fourL (l : List UInt8) : Int := ((l.getD 0 0).toNat : Int) * 16777216 + ((l.getD 1 0).toNat : Int) * 65536 + ((l.getD 2 0).toNat : Int) * 256 + ((l.getD 3 0).toNat : Int)
def fourOf (s : ByteArray) : Int := fourL s.data.toList
theorem or_four (a b c d : Int) (a0 : 0 ≤ a) (a1 : a < 256) (b0 : 0 ≤ b) (b1 : b < 256) (c0 : 0 ≤ c) (c1 : c < 256) (d0 : 0 ≤ d) (d1 : d < 256) :
  bits .or .u32 (bits .or .u32 (bits .or .u32 (a * 16777216) (b * 65536)) (c * 256)) d = a * 16777216 + b * 65536 + c * 256 + d := by
 have wr : ∀ n : Int, 0 ≤ n → n < 2 ^ 32 → IntKind.u32.wrap n = n := fun n h h' => IntWalk.u32_in n (by omega)
 rw [bits_join .u32 32 (by decide) wr 24 (a * 16777216) (b * 65536) (by omega) (by omega) (by omega) (by omega) (by omega) (by omega),
  bits_join .u32 32 (by decide) wr 16 (a * 16777216 + b * 65536) (c * 256) (by omega) (by omega) (by omega) (by omega) (by omega) (by omega),
  bits_join .u32 32 (by decide) wr 8 (a * 16777216 + b * 65536 + c * 256) d (by omega) (by omega) (by omega) (by omega) (by omega) (by omega)]
theorem byte_at (s : ByteArray) (i : Nat) (h : i < s.size) : s.data.toList.getD i 0 = s[i] := by
 have : i < s.data.toList.length := by simpa using h
 simp [List.getD, List.getElem?_eq_getElem this]
 rfl
theorem or_fourOf (s : ByteArray) (n0 : 0 < s.size) (n1 : 1 < s.size) (n2 : 2 < s.size) (n3 : 3 < s.size) :
  bits .or .u32 (bits .or .u32 (bits .or .u32 ((s[0].toNat : Int) * 16777216) ((s[1].toNat : Int) * 65536)) ((s[2].toNat : Int) * 256)) (s[3].toNat : Int) = fourOf s := by
 have b0 := s[0].toNat_lt
 have b1 := s[1].toNat_lt
 have b2 := s[2].toNat_lt
 have b3 := s[3].toNat_lt
 rw [or_four _ _ _ _ (by omega) (by omega) (by omega) (by omega) (by omega) (by omega) (by omega) (by omega), fourOf, fourL, byte_at s 0 n0, byte_at s 1 n1, byte_at s 2 n2, byte_at s 3 n3]
def four (n : Int) : ByteArray := strOfNums [n / 16777216, n / 65536 % 256, n / 256 % 256, n % 256]
theorem four_size (n : Int) : (four n).size = 4 := by unfold four; rw [strOfNums_size]; rfl
theorem four_back (n : Int) (h0 : 0 ≤ n) (h1 : n ≤ 4294967295) (x : ByteArray) : fourOf ((four n) ++ x) = n := by
 have e : ((four n) ++ x).data.toList = (four n).data.toList ++ x.data.toList := by simp [ByteArray.data_append]
 unfold fourOf
 rw [e, four, strOfNums_data]
 have t : ∀ z : Int, 0 ≤ z → z < 256 → ((UInt8.ofNat z.toNat).toNat : Int) = z := by
  intro z h h'
  rw [UInt8.toNat_ofNat']
  omega
 simp only [fourL, List.map_cons, List.map_nil, List.cons_append, List.nil_append, List.getD_cons_zero, List.getD_cons_succ]
 rw [t _ (by omega) (by omega), t _ (by omega) (by omega), t _ (by omega) (by omega), t _ (by omega) (by omega)]
 omega
theorem four_any (n : Int) (w : World) (h0 : 0 ≤ n) (h1 : n ≤ 4294967295) :
  Calls Tryz.prog 170 #[.int .u32 n] w fun e w' => e = .returned (.string (four n)) ∧ Below w.heap.size w w' := by
 have hcv := run_convert_bytes_arg (P := Tryz.prog) (w.alloc (.cells #[.int .u8 (n / 16777216), .int .u8 (n / 65536 % 256), .int .u8 (n / 256 % 256), .int .u8 (n % 256)] 5)) 68 5 Tryz.underlying68 Tryz.underlying5 w.heap.size 0 4 4 [n / 16777216, n / 65536 % 256, n / 256 % 256, n % 256] rfl (by
  intro i hi
  match i, hi with
  | 0, _ => simp
  | 1, _ => simp
  | 2, _ => simp
  | 3, _ => simp) 9 Tryz.underlying9
 go_enter Tryz.func170, Tryz.ntmps170
 go_wp2
 go_ret
 exact ⟨rfl, (Below.refl _ _).alloc (Nat.le_refl _) _⟩
theorem rtakeFour_ok (s : ByteArray) (w : World) (hs : s.size ≤ maxLen) (h4 : 4 ≤ s.size) :
  Calls Tryz.prog 113 #[.string s] w fun e w' => e = .returned (.tuple #[.int .u32 (fourOf s), .bool true]) ∧ ∃ q, w' = w.drewN q := by
 have g0 : (0 : Int) < s.size := by omega
 have g1 : (1 : Int) < s.size := by omega
 have g2 : (2 : Int) < s.size := by omega
 have g3 : (3 : Int) < s.size := by omega
 have n0 : 0 < s.size := by omega
 have n1 : 1 < s.size := by omega
 have n2 : 2 < s.size := by omega
 have n3 : 3 < s.size := by omega
 have b0 : s[0].toNat < 256 := s[0].toNat_lt
 have b1 : s[1].toNat < 256 := s[1].toNat_lt
 have b2 : s[2].toNat < 256 := s[2].toNat_lt
 have b3 : s[3].toNat < 256 := s[3].toNat_lt
 have H : Hid (_ = fourOf s) := or_fourOf s n0 n1 n2 n3
 go_enter Tryz.func113, Tryz.ntmps113
 go_wp2
 go_quiet (fail)
 go_wp2
 go_ret2
 exact ⟨congrArg (fun z => Ending.returned (.tuple #[.int .u32 z, .bool true])) H.out, nq, rfl⟩
theorem below_draws (w : World) : ∀ q, Below w.heap.size w (w.drewN q)
 | 0 => Below.refl _ _
 | q + 1 => (below_draws w q).drew
theorem rtakeFour_in (s : ByteArray) (w : World) (hs : s.size ≤ maxLen) (h4 : 4 ≤ s.size) :
  Calls Tryz.prog 113 #[.string s] w fun e w' => e = .returned (.tuple #[.int .u32 (fourOf s), .bool true]) ∧ Below w.heap.size w w' :=
 (rtakeFour_ok s w hs h4).mono fun e w' ⟨he, q, hq⟩ => ⟨he, hq ▸ below_draws w q⟩
end Go.Proofs.YtclcgakfmcofaaaGreatDoor
namespace Go.Proofs.YtclcgakfmcofaaaGreatDoor
set_option linter.unusedVariables false
set_option maxRecDepth 100000
def fSum (s : ByteArray) : Int := wd (crc (L s))
theorem fSum_lt (s : ByteArray) : 0 ≤ fSum s ∧ fSum s ≤ 4294967295 := wd_lt _
def frameOf (s : ByteArray) : ByteArray := four (s.size : Int) ++ four (fSum (four (s.size : Int) ++ s)) ++ s
theorem frame_size (s : ByteArray) : (frameOf s).size = 8 + s.size := by
 unfold frameOf; rw [ByteArray.size_append, ByteArray.size_append, four_size, four_size]
theorem fourOf_nat (s : ByteArray) : ∃ n : Nat, fourOf s = (n : Int) ∧ n ≤ 4294967295 := by
 unfold fourOf fourL
 have h0 := (s.data.toList.getD 0 0).toNat_lt
 have h1 := (s.data.toList.getD 1 0).toNat_lt
 have h2 := (s.data.toList.getD 2 0).toNat_lt
 have h3 := (s.data.toList.getD 3 0).toNat_lt
 exact ⟨(s.data.toList.getD 0 0).toNat * 16777216 + (s.data.toList.getD 1 0).toNat * 65536 + (s.data.toList.getD 2 0).toNat * 256 + (s.data.toList.getD 3 0).toNat, by omega, by omega⟩
def fTake (s : ByteArray) : ByteArray × Int × Int :=
 if s.size < 8 then (⟨#[]⟩, 0, 6)
 else if 32768 < fourOf s then (⟨#[]⟩, 0, 2)
 else if (s.size : Int) < 8 + fourOf s then (⟨#[]⟩, 0, 6)
 else if fSum (s.extract 0 4 ++ s.extract 8 (8 + fourOf s).toNat) ≠ fourOf (s.extract 4 s.size) then (⟨#[]⟩, 0, 8)
 else (s.extract 8 (8 + fourOf s).toNat, 8 + fourOf s, 0)
theorem fTake_short {s : ByteArray} (h : s.size < 8) : fTake s = (⟨#[]⟩, 0, 6) := by unfold fTake; rw [if_pos h]
theorem fTake_over {s : ByteArray} {n : Nat} (h : ¬ s.size < 8) (hn : fourOf s = (n : Int)) (h1 : 32768 < n) : fTake s = (⟨#[]⟩, 0, 2) := by
 unfold fTake; rw [if_neg h, hn, if_pos (by omega)]
theorem fTake_cut {s : ByteArray} {n : Nat} (h : ¬ s.size < 8) (hn : fourOf s = (n : Int)) (h1 : ¬ 32768 < n) (h2 : s.size < 8 + n) : fTake s = (⟨#[]⟩, 0, 6) := by
 unfold fTake; rw [if_neg h, hn, if_neg (by omega), if_pos (by omega)]
theorem toN (n : Nat) : (8 + (n : Int)).toNat = 8 + n := by omega
theorem fTake_sum {s : ByteArray} {n : Nat} (h : ¬ s.size < 8) (hn : fourOf s = (n : Int)) (h1 : ¬ 32768 < n) (h2 : ¬ s.size < 8 + n) (h3 : fSum (s.extract 0 4 ++ s.extract 8 (8 + n)) ≠ fourOf (s.extract 4 s.size)) : fTake s = (⟨#[]⟩, 0, 8) := by
 unfold fTake; rw [if_neg h, hn, if_neg (by omega), if_neg (by omega), toN, if_pos h3]
theorem fTake_ok {s : ByteArray} {n : Nat} (h : ¬ s.size < 8) (hn : fourOf s = (n : Int)) (h1 : ¬ 32768 < n) (h2 : ¬ s.size < 8 + n) (h3 : fSum (s.extract 0 4 ++ s.extract 8 (8 + n)) = fourOf (s.extract 4 s.size)) : fTake s = (s.extract 8 (8 + n), 8 + (n : Int), 0) := by
 unfold fTake; rw [if_neg h, hn, if_neg (by omega), if_neg (by omega), toN, if_neg (by simpa using h3)]
theorem ext_zero (a b : ByteArray) : (a ++ b).extract 0 a.size = a := by
 apply ba_ext; show L _ = L _
 rw [L_ext, L_app, List.drop_zero, Nat.sub_zero, ← L_len a, List.take_left]
theorem ext_tail (a b : ByteArray) : (a ++ b).extract a.size (a ++ b).size = b := by
 have := from_app a b
 unfold from' at this
 rwa [Int.toNat_natCast] at this
theorem frame_back (s x : ByteArray) (h : s.size ≤ 32768) : fTake (frameOf s ++ x) = (s, ((8 + s.size : Nat) : Int), 0) := by
 have e : frameOf s ++ x = four (s.size : Int) ++ (four (fSum (four (s.size : Int) ++ s)) ++ (s ++ x)) := by unfold frameOf; simp only [app_assoc]
 have hsz : (frameOf s ++ x).size = 8 + s.size + x.size := by rw [ByteArray.size_append, frame_size]
 have hn : fourOf (frameOf s ++ x) = (s.size : Int) := by rw [e]; exact four_back _ (by omega) (by omega) _
 have e0 : (frameOf s ++ x).extract 0 4 = four (s.size : Int) := by
  rw [e]; have := ext_zero (four (s.size : Int)) (four (fSum (four (s.size : Int) ++ s)) ++ (s ++ x)); rwa [four_size] at this
 have e4 : (frameOf s ++ x).extract 4 (frameOf s ++ x).size = four (fSum (four (s.size : Int) ++ s)) ++ (s ++ x) := by
  rw [e]; have := ext_tail (four (s.size : Int)) (four (fSum (four (s.size : Int) ++ s)) ++ (s ++ x)); rwa [four_size] at this
 have e8 : (frameOf s ++ x).extract 8 (8 + s.size) = s := by
  have h1 : frameOf s ++ x = (four (s.size : Int) ++ four (fSum (four (s.size : Int) ++ s))) ++ (s ++ x) := by unfold frameOf; simp only [app_assoc]
  have := ext_mid (four (s.size : Int) ++ four (fSum (four (s.size : Int) ++ s))) s x
  rw [ByteArray.size_append, four_size, four_size] at this
  rw [h1]; exact this
 have l := fSum_lt (four (s.size : Int) ++ s)
 rw [fTake_ok (n := s.size) (by omega) hn (by omega) (by omega) (by rw [e0, e4, e8, four_back _ l.1 l.2]), e8]
 simp
end Go.Proofs.YtclcgakfmcofaaaGreatDoor
