/- sum.Sum and the page's own: each answers the sum of the bytes, bit by bit; nothing is written. -/
import Derived.Test.YtejgcflcckjlpaaGreatDoorBC31
import Derived.Test.YtejgcflcckjlpaaGreatDoorRows
import Derived.WalkKit
namespace Go.Proofs.YtejgcflcckjlpaaGreatDoor
open Go.RowKit
set_option linter.unusedVariables false
set_option maxRecDepth 100000

/-- The table lies where the program's text lays it. -/
def Halves (w : World) : Prop := ∀ k : Nat, k < 16 → w.cell? ⟨0, k, none⟩ = some (.int .u32 (wd (half k)))

set_option maxRecDepth 100000 in
theorem divide_any (x : BitVec 32) (w : World) (h : Halves w) :
    Calls Tryz.prog 66 #[.int .u32 (wd x)] w fun e w' => e = .returned (.int .u32 (wd (step4 x))) ∧ w' = w := by
  obtain ⟨x0, x1⟩ := wd_lt x
  have hk : x.toNat % 16 < 16 := Nat.mod_lt _ (by decide)
  have hc := h _ hk
  have ek : x.toNat % 16 = (wd x % 16).toNat := by unfold wd; omega
  have hx := wd_xor (x >>> 4) (half (x.toNat % 16))
  rw [step4_table, ← wd_shr x 4, show (2 : Int) ^ 4 = 16 from rfl] at hx
  rw [ek] at hc hx
  go_enter Tryz.func66, Tryz.ntmps66
  go_wp2
  go_ret
  exact ⟨rfl, rfl⟩

/-- What is left of the bytes. -/
theorem crc_step (s : ByteArray) (k : Nat) (h : k < s.size) (x : BitVec 32) : crcFrom x (s.data.toList.drop k) = crcFrom (step8 (x ^^^ low s[k])) (s.data.toList.drop (k + 1)) := by
  have h' : k < s.data.toList.length := by simpa using h
  rw [List.drop_eq_getElem_cons h']
  rfl
theorem crc_end (s : ByteArray) (k : Nat) (h : s.size ≤ k) (x : BitVec 32) : crcFrom x (s.data.toList.drop k) = x := by
  rw [List.drop_of_length_le (by simpa using h)]
  rfl

set_option maxRecDepth 100000 in
theorem sum_any (s : ByteArray) (w : World) (hs : s.size ≤ maxLen) (h : Halves w) :
    Calls Tryz.prog 54 #[.string s] w fun e w' => e = .returned (.int .u32 (wd (crc s.data.toList))) ∧ w' = w := by
  unfold maxLen at hs
  have e0 : (4294967295 : Int) = wd (BitVec.allOnes 32) := wd_ones
  go_enter Tryz.func54, Tryz.ntmps54
  go_wp2
  go_loop [3, 7] (fun c i => ∃ (k : Nat) (x : BitVec 32), k ≤ s.size ∧ i = .int .i64 k ∧ c = .int .u32 (wd x) ∧ crcFrom x (s.data.toList.drop k) = crcFrom (BitVec.allOnes 32) s.data.toList) (fun _ i => s.size - (intOf i).toNat)
  case atStart => exact ⟨0, BitVec.allOnes 32, by omega, rfl, by rw [← e0], rfl⟩
  case round =>
    obtain ⟨k, x, hk, rfl, rfl, hx⟩ := hrel
    by_cases hlt : k < s.size
    · have hb := wd_xor_byte x s[k]
      rw [show ((s[k].toNat : Nat) : Int) = (s[k].toNat : Int) % 4294967296 by have := s[k].toNat_lt; omega] at hb
      rw [crc_step s k hlt] at hx
      go_wp2_with (go_at_call 66; refine (divide_any _ _ h).mono ?_; rintro e w' ⟨rfl, rfl⟩)
      go_round
      case rel => exact ⟨k + 1, _, by omega, by go_num, rfl, by rw [← step8_two]; exact hx⟩
      case measure => simp [intOf]; omega
    · rw [crc_end s k (by omega)] at hx
      have hn : bits .xor .u32 (IntKind.max .u32) (wd x) = wd (crc s.data.toList) := by unfold crc; rw [← hx]; exact wd_not x
      clear hx
      go_wp2
      go_ret
      exact ⟨rfl, rfl⟩

theorem step1_one (x : BitVec 32) (h : x.getLsbD 0 = true) : wd (step1 x) = bits .xor .u32 (wd x / 2) 3988292384 := by
  have e : wd x / (2 : Int) ^ 1 = wd (x >>> 1) := wd_shr x 1
  rw [show (2 : Int) ^ 1 = 2 from rfl] at e
  rw [e, wd_poly, wd_xor]
  unfold step1
  rw [h]
  rfl
theorem step1_none (x : BitVec 32) (h : x.getLsbD 0 = false) : wd (step1 x) = wd x / 2 := by
  have e : wd x / (2 : Int) ^ 1 = wd (x >>> 1) := wd_shr x 1
  rw [show (2 : Int) ^ 1 = 2 from rfl] at e
  rw [e]
  unfold step1
  rw [h]
  rfl
/-- So many bits. -/
def steps : Nat → BitVec 32 → BitVec 32
  | 0, x => x
  | n + 1, x => steps n (step1 x)
theorem steps_eight (x : BitVec 32) : steps 8 x = step8 x := rfl

end Go.Proofs.YtejgcflcckjlpaaGreatDoor
