/- A row of bytes of the law's own, made out of a string: its cells, what a store leaves, the string made of it again; turned bits and sums. -/
import Derived.Test.YtllcpdpjfcjopaaDoorHalvesL
import Derived.Lib.ConvBytes
import Derived.Laws.BytesArg
import Derived.Laws.BitsAllLaws
namespace Go.Proofs.YtllcpdpjfcjopaaDoor
open Go.RowKit
set_option linter.unusedVariables false

structure OwnB (W : World) (B : Nat) (l : List UInt8) : Prop where
  cell : ∀ j, j < l.length → W.cell? ⟨B, j, none⟩ = some (.int .u8 ((l.getD j 0).toNat : Int))
  free : ∀ j, j < l.length → W.frozen? ⟨B, j, none⟩ = false
theorem OwnB.drew {W : World} {B : Nat} {l : List UInt8} (h : OwnB W B l) : OwnB W.drew B l :=
  ⟨fun j hj => by rw [← h.cell j hj]; simp, fun j hj => by rw [← h.free j hj]; simp⟩
theorem OwnB.set {W : World} {B k : Nat} {l : List UInt8} (h : OwnB W B l) (hk : k < l.length) (v : UInt8) (n : Int) (hn : n = (v.toNat : Int)) : OwnB (W.setCell ⟨B, k, none⟩ (.int .u8 n)) B (l.set k v) := by
  subst hn
  constructor
  · intro j hj
    rw [List.length_set] at hj
    have h1 := h.cell j hj
    by_cases e : j = k
    · subst e
      rw [World.cell?_setCell_same _ _ _ h1]
      simp [List.getD, hj]
    · rw [World.cell?_setCell_other W ⟨B, k, none⟩ ⟨B, j, none⟩ _ (by intro h; exact e (congrArg Addr.off h).symm), h1]
      simp [List.getD, Ne.symm e]
  · intro j hj
    rw [List.length_set] at hj
    have h1 := h.free j hj
    rw [← h1]
    simp
theorem toBytes (W : World) (s : ByteArray) : ∃ W1 cap, (convert 9 36 (.string s)).run Tryd.prog W = .ok (.slice (some ⟨W.heap.size, 0, none⟩) s.size cap) W1 ∧ Below W.heap.size W W1 ∧ OwnB W1 W.heap.size s.data.toList := by
  refine ⟨_, _, Lib.run_convert_string_bytes W 9 36 5 s Tryd.underlying9 Tryd.underlying36 Tryd.underlying5, ?_, ?_, ?_⟩
  · exact ⟨rfl, rfl, rfl, by rw [Lib.bytesWorld_size]; omega, fun k hk => Lib.bytesWorld_at_old W 5 s k hk⟩
  · intro j hj
    exact Lib.bytesWorld_cell W 5 s j (by simpa using hj)
  · intro j hj
    have hj' : j < s.size := by simpa using hj
    have : s.size ≤ (Lib.bytesCells W 5 s).size := by simp [Lib.bytesCells]
    simp only [World.frozen?, Lib.bytesWorld_at_new]
    simp
    omega
theorem toBytesB {B : Nat} {w W : World} (_ : Below B w W) (s : ByteArray) : ∃ W1 cap, (convert 9 36 (.string s)).run Tryd.prog W = .ok (.slice (some ⟨W.heap.size, 0, none⟩) s.size cap) W1 ∧ Below W.heap.size W W1 ∧ OwnB W1 W.heap.size s.data.toList := toBytes W s
theorem ofBytes {W : World} {B cap : Nat} {l : List UInt8} (h : OwnB W B l) : (convert 36 9 (.slice (some ⟨B, 0, none⟩) l.length cap)).run Tryd.prog W = .ok (.string ⟨l.toArray⟩) W := by
  have e : strOfNums (l.map fun b => ((b.toNat : Nat) : Int)) = ⟨l.toArray⟩ := by
    have h1 : (strOfNums (l.map fun b => ((b.toNat : Nat) : Int))).data.toList = l := by
      rw [strOfNums_data, List.map_map]
      conv => rhs; rw [← List.map_id l]
      apply List.map_congr_left
      intro b _
      simp
    have h2 : (strOfNums (l.map fun b => ((b.toNat : Nat) : Int))).data = l.toArray := by apply Array.ext'; exact h1
    cases hs : strOfNums (l.map fun b => ((b.toNat : Nat) : Int)) with
    | mk d => rw [hs] at h2; rw [← h2]
  rw [← e]
  refine run_convert_bytes_arg (P := Tryd.prog) W 36 5 Tryd.underlying36 Tryd.underlying5 B 0 l.length cap _ (by simp) ?_ 9 Tryd.underlying9
  intro i hi
  rw [Nat.zero_add, h.cell i hi]
  simp [List.getD, List.getElem?_eq_getElem hi]

/-- A bit of a byte turned. -/
theorem xor_u8 (a b : UInt8) : bits .xor .u8 ((a.toNat : Nat) : Int) ((b.toNat : Nat) : Int) = (((a ^^^ b).toNat : Nat) : Int) := by
  have := a.toNat_lt
  have := b.toNat_lt
  rw [u8_xor_nat _ _ (by omega) (by omega), UInt8.toNat_xor]
theorem bit_u8 : ∀ m : Fin 8, ((2 : Int) ^ m.val) = ((((1 : UInt8) <<< (UInt8.ofNat m.val)).toNat : Nat) : Int) := by decide
def turn (m : Nat) : UInt8 := 1 <<< (UInt8.ofNat m)
theorem low_turn : ∀ m : Fin 8, low (turn m.val) = BitVec.ofNat 32 (2 ^ m.val) := by decide
theorem low_xor (a b : UInt8) : low (a ^^^ b) = low a ^^^ low b := by
  apply BitVec.eq_of_toNat_eq
  have h1 := a.toNat_lt
  have h2 := b.toNat_lt
  have h3 := (a ^^^ b).toNat_lt
  rw [BitVec.toNat_xor]
  unfold low
  rw [BitVec.toNat_ofNat, BitVec.toNat_ofNat, BitVec.toNat_ofNat, Nat.mod_eq_of_lt (by omega), Nat.mod_eq_of_lt (by omega), Nat.mod_eq_of_lt (by omega), UInt8.toNat_xor]
theorem split_at (l : List UInt8) (k : Nat) (h : k < l.length) : l = l.take k ++ l.getD k 0 :: l.drop (k + 1) := by
  rw [List.getD_eq_getElem?_getD, List.getElem?_eq_getElem h]
  simp
theorem set_at (l : List UInt8) (k : Nat) (h : k < l.length) (v : UInt8) : l.set k v = l.take k ++ v :: l.drop (k + 1) := List.set_eq_take_append_cons_drop .. |>.trans (by rw [if_pos h])

/-- One bit. -/
theorem turned_one (l : List UInt8) (k m : Nat) (hk : k < l.length) (hm : m < 8) : crc (l.set k (l.getD k 0 ^^^ turn m)) ≠ crc l := by
  rw [set_at l k hk]
  conv => rhs; rw [split_at l k hk]
  apply crc_one
  rw [low_xor, low_turn ⟨m, hm⟩]
  intro e
  have h2 : BitVec.ofNat 32 (2 ^ m) = 0#32 := by
    have := congrArg (fun z => low (l.getD k 0) ^^^ z) e
    rw [← BitVec.xor_assoc] at this
    simpa using this
  have : ∀ m : Fin 8, BitVec.ofNat 32 (2 ^ m.val) ≠ 0#32 := by decide
  exact this ⟨m, hm⟩ h2
/-- One bit, and the byte behind it. -/
theorem turned_two (l : List UInt8) (k m : Nat) (hk : k + 1 < l.length) (hm : m < 8) (c : UInt8) : crc ((l.set k (l.getD k 0 ^^^ turn m)).set (k + 1) (l.getD (k + 1) 0 ^^^ c)) ≠ crc l := by
  have e1 : (l.set k (l.getD k 0 ^^^ turn m)).set (k + 1) (l.getD (k + 1) 0 ^^^ c) = l.take k ++ (l.getD k 0 ^^^ turn m) :: (l.getD (k + 1) 0 ^^^ c) :: l.drop (k + 2) := by
    rw [set_at _ (k + 1) (by rw [List.length_set]; exact hk), List.take_set, List.drop_set, if_pos (by omega), List.take_succ_eq_append_getElem (by omega), List.set_append_right _ _ (by simp; omega)]
    simp [Nat.min_eq_left (Nat.le_of_lt (show k < l.length by omega))]
  have e2 : l = l.take k ++ l.getD k 0 :: l.getD (k + 1) 0 :: l.drop (k + 2) := by
    conv => lhs; rw [split_at l k (by omega)]
    congr 2
    rw [List.drop_eq_getElem_cons hk, List.getD_eq_getElem?_getD, List.getElem?_eq_getElem hk]
    rfl
  rw [e1]
  conv => rhs; rw [e2]
  refine crc_two _ _ _ _ _ _ (BitVec.ofNat 32 (2 ^ m)) ?_ (fun e => bit_far ⟨m, hm⟩ e) ⟨c, ?_⟩
  · rw [low_xor, low_turn ⟨m, hm⟩, BitVec.xor_assoc, BitVec.xor_comm, BitVec.xor_assoc]; simp
  · rw [low_xor, BitVec.xor_assoc, BitVec.xor_comm, BitVec.xor_assoc]; simp

theorem turn_mod : ∀ m : Fin 8, (2 : Int) ^ m.val % 256 = (((turn m.val).toNat : Nat) : Int) := by decide
theorem turn_cell (x : ByteArray) (j m : Nat) (hj : j < x.data.size) (hm : m < 8) : bits .xor .u8 ((x.data[j].toNat : Nat) : Int) ((2 : Int) ^ m % 256) = (((x.data.toList.getD j 0 ^^^ turn m).toNat : Nat) : Int) := by
  have e : x.data.toList.getD j 0 = x.data[j] := by
    simp only [List.getD, Array.getElem?_toList, Array.getElem?_eq_getElem hj, Option.getD_some]
  rw [e, turn_mod ⟨m, hm⟩, xor_u8]
theorem byte_nat (j : Nat) (h : j < 256) : ((j : Nat) : Int) = (((UInt8.ofNat j).toNat : Nat) : Int) := by
  rw [UInt8.toNat_ofNat']
  omega
/-- A byte xored with a number below 256. -/
theorem xor_nat (c d : UInt8) (j : Nat) (h : j < 256) (hd : c ^^^ UInt8.ofNat j = d) : bits .xor .u8 ((c.toNat : Nat) : Int) ((j : Nat) : Int) = ((d.toNat : Nat) : Int) := by
  rw [byte_nat j h, xor_u8, hd]
theorem set_next (l : List UInt8) (k : Nat) (v : UInt8) : (l.set k v).getD (k + 1) 0 = l.getD (k + 1) 0 := by
  simp [List.getD]
theorem data_mk (l : List UInt8) : (ByteArray.mk l.toArray).data.toList = l := rfl
end Go.Proofs.YtllcpdpjfcjopaaDoor
