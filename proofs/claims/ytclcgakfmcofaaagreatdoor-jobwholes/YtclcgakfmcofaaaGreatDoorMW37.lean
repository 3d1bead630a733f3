/- Texts laid together: SumF, HalvesO, FFn. -/
import Derived.Test.YtclcgakfmcofaaaGreatDoorMW14
import Derived.Test.YtclcgakfmcofaaaGreatDoorRows
import Derived.WalkKit
import Derived.ProofKit
import Derived.OpenShut
import Derived.ShutString
import Derived.ChangeOld
import Derived.Below
import Derived.SliceStrings
import Derived.LaidMore
import Derived.WalkSmall
import Derived.Stop.Joined
set_option linter.unusedVariables false
set_option maxRecDepth 100000
namespace Go.Proofs.YtclcgakfmcofaaaGreatDoor
open Go.RowKit
def bI (w : World) : Prop := ∀ k : Nat, k < 16 → w.cell? ⟨2, k, none⟩ = some (.int .u32 (wd (half k)))
theorem divide_any (x : BitVec 32) (w : World) (h : bI w) :
  Calls Tryz.prog 240 #[.int .u32 (wd x)] w fun e w' => e = .returned (.int .u32 (wd (gP x))) ∧ w' = w := by
 obtain ⟨x0, x1⟩ := wd_lt x
 have hk : x.toNat % 16 < 16 := Nat.mod_lt _ (by decide)
 have hc := h _ hk
 have ek : x.toNat % 16 = (wd x % 16).toNat := by unfold wd; omega
 have hx := wd_xor (x >>> 4) (half (x.toNat % 16))
 rw [step4_table, ← wd_shr x 4, show (2 : Int) ^ 4 = 16 from rfl] at hx
 rw [ek] at hc hx
 go_enter Tryz.func240, Tryz.ntmps240
 go_wp2
 go_ret
 exact ⟨rfl, rfl⟩
theorem crc_step (s : ByteArray) (k : Nat) (h : k < s.size) (x : BitVec 32) : ew x (s.data.toList.drop k) = ew (step8 (x ^^^ low s[k])) (s.data.toList.drop (k + 1)) := by
 have h' : k < s.data.toList.length := by simpa using h
 rw [List.drop_eq_getElem_cons h']
 rfl
theorem crc_end (s : ByteArray) (k : Nat) (h : s.size ≤ k) (x : BitVec 32) : ew x (s.data.toList.drop k) = x := by
 rw [List.drop_of_length_le (by simpa using h)]
 rfl
theorem sum_any (s : ByteArray) (w : World) (hs : s.size ≤ maxLen) (h : bI w) :
  Calls Tryz.prog 202 #[.string s] w fun e w' => e = .returned (.int .u32 (wd (crc s.data.toList))) ∧ w' = w := by
 unfold maxLen at hs
 have e0 : (4294967295 : Int) = wd (BitVec.allOnes 32) := wd_ones
 go_enter Tryz.func202, Tryz.ntmps202
 go_wp2
 go_loop [3, 7] (fun c i => ∃ (k : Nat) (x : BitVec 32), k ≤ s.size ∧ i = .int .i64 k ∧ c = .int .u32 (wd x) ∧ ew x (s.data.toList.drop k) = ew (BitVec.allOnes 32) s.data.toList) (fun _ i => s.size - (intOf i).toNat)
 case atStart => exact ⟨0, BitVec.allOnes 32, by omega, rfl, by rw [← e0], rfl⟩
 case round =>
  obtain ⟨k, x, hk, rfl, rfl, hx⟩ := hrel
  by_cases hlt : k < s.size
  ·have hb := lp x s[k]
   rw [show ((s[k].toNat : Nat) : Int) = (s[k].toNat : Int) % 4294967296 by have := s[k].toNat_lt; omega] at hb
   rw [crc_step s k hlt] at hx
   go_wp2_with (go_at_call 240; refine (divide_any _ _ h).mono ?_; rintro e w' ⟨rfl, rfl⟩)
   go_round
   case rel => exact ⟨k + 1, _, by omega, by go_num, rfl, by rw [← step8_two]; exact hx⟩
   case measure => simp [intOf]; omega
  ·rw [crc_end s k (by omega)] at hx
   have hn : bits .xor .u32 (IntKind.max .u32) (wd x) = wd (crc s.data.toList) := by unfold crc; rw [← hx]; exact wd_not x
   clear hx
   go_wp2
   go_ret
   exact ⟨rfl, rfl⟩
theorem step1_one (x : BitVec 32) (h : x.getLsbD 0 = true) : wd (cy x) = bits .xor .u32 (wd x / 2) 3988292384 := by
 have e : wd x / (2 : Int) ^ 1 = wd (x >>> 1) := wd_shr x 1
 rw [show (2 : Int) ^ 1 = 2 from rfl] at e
 rw [e, wd_poly, wd_xor]
 unfold cy
 rw [h]
 rfl
theorem step1_none (x : BitVec 32) (h : x.getLsbD 0 = false) : wd (cy x) = wd x / 2 := by
 have e : wd x / (2 : Int) ^ 1 = wd (x >>> 1) := wd_shr x 1
 rw [show (2 : Int) ^ 1 = 2 from rfl] at e
 rw [e]
 unfold cy
 rw [h]
 rfl
def steps : Nat → BitVec 32 → BitVec 32
 | 0, x => x
 | n + 1, x => steps n (cy x)
theorem rsum_any (s : ByteArray) (w : World) (hs : s.size ≤ maxLen) :
  Calls Tryz.prog 114 #[.string s] w fun e w' => e = .returned (.int .u32 (wd (crc s.data.toList))) ∧ w' = w := by
 unfold maxLen at hs
 have e0 : (4294967295 : Int) = wd (BitVec.allOnes 32) := wd_ones
 go_enter Tryz.func114, Tryz.ntmps114
 go_wp2
 go_loop [3, 4] (fun c i => ∃ (k : Nat) (x : BitVec 32), k ≤ s.size ∧ i = .int .i64 k ∧ c = .int .u32 (wd x) ∧ ew x (s.data.toList.drop k) = ew (BitVec.allOnes 32) s.data.toList) (fun _ i => s.size - (intOf i).toNat)
 case atStart => exact ⟨0, BitVec.allOnes 32, by omega, rfl, by rw [← e0], rfl⟩
 case round =>
  obtain ⟨k, x, hk, rfl, rfl, hx⟩ := hrel
  by_cases hlt : k < s.size
  ·have hb := lp x s[k]
   rw [show ((s[k].toNat : Nat) : Int) = (s[k].toNat : Int) % 4294967296 by have := s[k].toNat_lt; omega] at hb
   rw [crc_step s k hlt] at hx
   generalize x ^^^ low s[k] = y at hb hx
   go_wp2
   go_loop [3, 5] (fun c i => ∃ (n : Nat) (z : BitVec 32), n ≤ 8 ∧ i = .int .i64 n ∧ c = .int .u32 (wd z) ∧ steps (8 - n) z = steps 8 y) (fun _ i => 8 - (intOf i).toNat)
   case atStart => exact ⟨0, y, by omega, rfl, rfl, rfl⟩
   case round =>
    obtain ⟨n, z, hn, rfl, rfl, hz⟩ := hrel
    obtain ⟨z0, z1⟩ := wd_lt z
    by_cases hn8 : n < 8
    ·rw [show 8 - n = (8 - (n + 1)) + 1 by omega] at hz
     cases hbit : z.getLsbD 0 with
     | true =>
      have hand : bits .and .u32 (wd z) 1 = 1 := by rw [wd_and1, wd_bit, hbit]; rfl
      have hs1 := step1_one z hbit
      go_wp2
      go_round
      case rel => exact ⟨n + 1, cy z, by omega, by go_num, by rw [hs1], hz⟩
      case measure => simp [intOf]; omega
     | false =>
      have hand : bits .and .u32 (wd z) 1 = 0 := by rw [wd_and1, wd_bit, hbit]; rfl
      have hs1 := step1_none z hbit
      go_wp2
      go_round
      case rel => exact ⟨n + 1, cy z, by omega, by go_num, by rw [hs1], hz⟩
      case measure => simp [intOf]; omega
    ·obtain rfl : n = 8 := by omega
     go_wp2
     go_round
     case rel => exact ⟨k + 1, z, by omega, by go_num, rfl, by rw [show z = step8 y from hz]; exact hx⟩
     case measure => simp [intOf]; omega
  ·rw [crc_end s k (by omega)] at hx
   have hn : bits .xor .u32 (IntKind.max .u32) (wd x) = wd (crc s.data.toList) := by unfold crc; rw [← hx]; exact wd_not x
   clear hx
   go_wp2
   go_ret
   exact ⟨rfl, rfl⟩
end Go.Proofs.YtclcgakfmcofaaaGreatDoor
namespace Go.Proofs.YtclcgakfmcofaaaGreatDoor
open Go.ChangeAt Go.ChangeShapes Go.RowKit Go.WideShapes
theorem cell_block {w : World} {b o : Nat} {v : Value} (h : w.cell? ⟨b, o, none⟩ = some v) : b < w.heap.size := by
 rcases Nat.lt_or_ge b w.heap.size with h1 | h1
 ·exact h1
 ·simp [World.cell?, h1] at h
def tabH : List Int := [0, 498536548, 997073096, 651767980, 1994146192, 1802195444, 1303535960, 1342533948, 3988292384, 4027552580, 3604390888, 3412177804, 2607071920, 2262029012, 2685067896, 3183342108]
theorem tab_half : ∀ k : Fin 16, tabH[k.val]? = some (wd (half k.val)) := by decide +kernel
theorem gHalves : Tryz.prog.globalNamed "thresher/sum.halves" = some 2 := by kernel_rfl
theorem tHalves : (Tryz.prog.globals[2]?).map (·.type) = some 334 := by kernel_rfl
theorem bI.below {w W : World} {B : Nat} (h : bI w) (hb : Below B w W) (h0 : 2 < B) : bI W := fun k hk => (hb.cell (p := ⟨2, k, none⟩) h0).trans (h k hk)
theorem bI.pos {w : World} (h : bI w) : 2 < w.heap.size := cell_block (h 0 (by decide))
end Go.Proofs.YtclcgakfmcofaaaGreatDoor
namespace Go.Proofs.YtclcgakfmcofaaaGreatDoor
open Go.RowKit
theorem bel_next {w w1 w2 : World} (h : Below w.heap.size w w1) (h2 : Below w1.heap.size w1 w2) : Below w.heap.size w w2 := h.trans (h2.mono h.size)
theorem sum5_any (s : ByteArray) (w : World) (hs : s.size ≤ maxLen) (h : bI w) : Calls Tryz.prog 202 #[.string s] w fun e w' => e = .returned (.int .u32 (gE s)) ∧ w' = w := sum_any s w hs h
theorem rsum5_any (s : ByteArray) (w : World) (hs : s.size ≤ maxLen) : Calls Tryz.prog 114 #[.string s] w fun e w' => e = .returned (.int .u32 (gE s)) ∧ w' = w := rsum_any s w hs
theorem sumOf_any (a s : ByteArray) (w : World) (hs : a.size + s.size ≤ 100000) (h : bI w) :
  Calls Tryz.prog 171 #[.string a, .string s] w fun e w' => e = .returned (.int .u32 (gE (a ++ s))) ∧ w' = w := by
 have hadd : ∀ W, (Op.stringOp .add a s).run Tryz.prog W = .ok (.string (a ++ s)) W := fun W => run_string_add_sum W _ _ (by omega)
 go_enter Tryz.func171, Tryz.ntmps171
 go_wp2_with (go_at_call 202; refine (sum5_any _ _ (by rw [ByteArray.size_append]; unfold maxLen; omega) h).mono ?_; rintro e w' ⟨rfl, rfl⟩)
 go_ret
 exact ⟨rfl, rfl⟩
theorem nj (s : ByteArray) (w : World) (hs : 32768 < s.size) :
  Calls Tryz.prog 137 #[.string s] w fun e w' => e = .returned (.tuple #[.string ⟨#[]⟩, .int .i64 2]) ∧ w' = w := by
 have hd : decide (32768 < (s.size : Int)) = true := decide_eq_true (by omega)
 go_enter Tryz.func137, Tryz.ntmps137
 go_wp2
 go_ret2
 exact ⟨rfl, rfl⟩
theorem pk (s : ByteArray) (w : World) (hs : s.size ≤ 32768) (h : bI w) :
  Calls Tryz.prog 137 #[.string s] w fun e w' => e = .returned (.tuple #[.string (aF s), .int .i64 0]) ∧ Below w.heap.size w w' := by
 have hd : decide (32768 < (s.size : Int)) = false := decide_eq_false (by omega)
 have l4 := eC (s.size : Int)
 have hl := fSum_lt (cg (s.size : Int) ++ s)
 have l8 := eC (gE (cg (s.size : Int) ++ s))
 have hadd : ∀ W, (Op.stringOp .add (cg (s.size : Int)) (cg (gE (cg (s.size : Int) ++ s)))).run Tryz.prog W = .ok (.string (cg (s.size : Int) ++ cg (gE (cg (s.size : Int) ++ s)))) W := fun W => run_string_add_sum W _ _ (by omega)
 have hadd2 : ∀ W, (Op.stringOp .add (cg (s.size : Int) ++ cg (gE (cg (s.size : Int) ++ s))) s).run Tryz.prog W = .ok (.string (cg (s.size : Int) ++ cg (gE (cg (s.size : Int) ++ s)) ++ s)) W := fun W => run_string_add_sum W _ _ (by rw [ByteArray.size_append]; omega)
 have h4 := fun W => four_any (s.size : Int) W (by omega) (by omega)
 have h5 := fun W (hW : bI W) => sumOf_any (cg (s.size : Int)) s W (by omega) hW
 have h6 := fun W => four_any (gE (cg (s.size : Int) ++ s)) W hl.1 hl.2
 unfold aF
 go_enter Tryz.func137, Tryz.ntmps137
 go_wp2_with fail
 refine (h4 _).mono ?_
 rintro e w1 ⟨rfl, hb1⟩
 have hh := h.below hb1 h.pos
 clear h4
 go_wp2_with fail
 refine (h5 _ hh).mono ?_
 rintro e w2 ⟨rfl, hw2⟩
 subst hw2
 clear h5
 go_wp2_with fail
 refine (h6 _).mono ?_
 rintro e w2 ⟨rfl, hb2⟩
 clear h6
 go_wp2_with fail
 go_ret2
 exact ⟨rfl, bel_next hb1 hb2⟩
theorem kc (s : ByteArray) (w : World) (hs : s.size ≤ 1000000) :
  Calls Tryz.prog 95 #[.string s] w fun e w' => e = .returned (.string (aF s)) ∧ Below w.heap.size w w' := by
 have l4 := eC (s.size : Int)
 have hl := fSum_lt (cg (s.size : Int) ++ s)
 have l8 := eC (gE (cg (s.size : Int) ++ s))
 have hadd0 : ∀ W, (Op.stringOp .add (cg (s.size : Int)) s).run Tryz.prog W = .ok (.string (cg (s.size : Int) ++ s)) W := fun W => run_string_add_sum W _ _ (by omega)
 have hadd : ∀ W, (Op.stringOp .add (cg (s.size : Int)) (cg (gE (cg (s.size : Int) ++ s)))).run Tryz.prog W = .ok (.string (cg (s.size : Int) ++ cg (gE (cg (s.size : Int) ++ s)))) W := fun W => run_string_add_sum W _ _ (by omega)
 have hadd2 : ∀ W, (Op.stringOp .add (cg (s.size : Int) ++ cg (gE (cg (s.size : Int) ++ s))) s).run Tryz.prog W = .ok (.string (cg (s.size : Int) ++ cg (gE (cg (s.size : Int) ++ s)) ++ s)) W := fun W => run_string_add_sum W _ _ (by rw [ByteArray.size_append]; omega)
 have h4 := fun W => oE (s.size : Int) W (by omega) (by omega)
 have h5 := fun W => rsum5_any (cg (s.size : Int) ++ s) W (by rw [ByteArray.size_append]; unfold maxLen; omega)
 have h6 := fun W => oE (gE (cg (s.size : Int) ++ s)) W hl.1 hl.2
 unfold aF
 go_enter Tryz.func95, Tryz.ntmps95
 go_wp2_with fail
 refine (h4 _).mono ?_
 rintro e w1 ⟨rfl, hb1⟩
 clear h4
 go_wp2_with fail
 refine (h5 _).mono ?_
 rintro e w2 ⟨rfl, hw2⟩
 subst hw2
 clear h5
 go_wp2_with fail
 refine (h6 _).mono ?_
 rintro e w2 ⟨rfl, hb2⟩
 clear h6
 go_wp2_with fail
 go_ret
 exact ⟨rfl, bel_next hb1 hb2⟩
end Go.Proofs.YtclcgakfmcofaaaGreatDoor
