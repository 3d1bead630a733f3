/- The page's own: decimal, words. -/
import Derived.Test.YtaaijlkjbmpegaaDoorLNum
import Derived.Test.YtaaijlkjbmpegaaDoorLParse
import Derived.Test.YtaaijlkjbmpegaaDoorRows
import Derived.Test.YtaaijlkjbmpegaaDoorSStr
import Derived.WalkKit
import Derived.WalkSmall
import Derived.Below
import Derived.Lib.ConvBytes
import Derived.Test.YtaaijlkjbmpegaaDoorPlain
namespace Go.Proofs.YtaaijlkjbmpegaaDoor
open Go.RowKit
set_option linter.unusedVariables false
set_option maxRecDepth 100000

theorem hidD {p : Prop} (h : p) : Hid p := h
theorem ba_app (a b : List UInt8) : ba a ++ ba b = ba (a ++ b) := by apply ba_ext; show L _ = L _; rw [L_app, L_ba, L_ba, L_ba]
theorem digits_step (q : Nat) (t : List UInt8) (U : Nat) (h : Lib.decDigits U = Lib.decDigits q ++ t) : (q < 10 → Lib.decDigits U = UInt8.ofNat (48 + q % 10) :: t) ∧ (¬ q < 10 → Lib.decDigits U = Lib.decDigits (q / 10) ++ (UInt8.ofNat (48 + q % 10) :: t)) := by
  refine ⟨fun hq => ?_, fun hq => ?_⟩
  · rw [h, Lib.decDigits_one hq, Nat.mod_eq_of_lt hq]; rfl
  · rw [h, Lib.decDigits, dif_neg hq]; simp
theorem neg_u64 (n : Int) (h0 : -9223372036854775808 ≤ n) (hn : n < 0) : IntKind.u64.wrap (bits .xor .u64 IntKind.u64.max (IntKind.u64.wrap n) + 1) = (n.natAbs : Int) := by
  have hw : IntKind.u64.wrap n = n + 18446744073709551616 := by rw [IntKind.wrap_u64]; omega
  rw [hw, not_u64 _ (by omega) (by omega), IntKind.wrap_u64]
  omega
theorem pos_u64 (n : Int) (h0 : 0 ≤ n) (h1 : n ≤ 9223372036854775807) : IntKind.u64.wrap n = (n.natAbs : Int) := by
  rw [IntKind.wrap_u64]
  omega
theorem ba_size (l : List UInt8) : (ba l).size = l.length := by rw [← L_len, L_ba]
theorem add_ba (a b : List UInt8) (h : a.length + b.length ≤ 100000) (W : World) : (Op.stringOp .add (ba a) (ba b)).run Tryd.prog W = .ok (.string (ba (a ++ b))) W := by
  rw [← ba_app]
  exact run_string_add_sum W _ _ (by rw [ba_size, ba_size]; omega)
theorem conv_one (W : World) (z : Nat) (hz : z < 256) : (convert 45 9 (.slice (some ⟨W.heap.size, 0, none⟩) 1 1)).run Tryd.prog (W.alloc (.cells #[.int .u8 (z : Int)] 5)) = .ok (.string (ba [UInt8.ofNat z])) (W.alloc (.cells #[.int .u8 (z : Int)] 5)) := by
  have h := run_convert_bytes_arg (P := Tryd.prog) (W.alloc (.cells #[.int .u8 (z : Int)] 5)) 45 5 Tryd.underlying45 Tryd.underlying5 W.heap.size 0 1 1 [(z : Int)] rfl (fun i hi => by
    obtain rfl : i = 0 := by omega
    simp) 9 Tryd.underlying9
  rw [h]
  congr 2
/-- The rounds of decimal. -/
def DecR (U : Nat) (x y : Value) : Prop := ∃ (q : Nat) (t : List UInt8), q ≤ 9223372036854775808 ∧ x = .int .u64 (q : Int) ∧ y = .string (ba t) ∧ Lib.decDigits U = Lib.decDigits q ++ t ∧ t.length ≤ 20
set_option maxHeartbeats 800000 in
theorem decimal_any (n : Int) (w : World) (h0 : -9223372036854775808 ≤ n) (h1 : n ≤ 9223372036854775807) :
    Calls Tryd.prog 28 #[.int .i64 n] w fun e w' => e = .returned (.string (ba (Lib.itoa n))) ∧ Below w.heap.size w w' := by
  by_cases hn : n < 0
  · have hit : Lib.itoa n = 45 :: Lib.decDigits n.natAbs := by unfold Lib.itoa; rw [if_pos hn]
    have hx := neg_u64 n h0 hn
    have hUb : n.natAbs ≤ 9223372036854775808 := by omega
    generalize n.natAbs = U at hit hx hUb
    have HI := hidD hit
    have HU := hidD hUb
    clear hit hUb
    go_enter Tryd.func28, Tryd.ntmps28
    go_wp2
    clear hx
    go_loopw [3, 4] (fun x y wr => Hid (DecR U x y) ∧ Below w.heap.size w wr) (fun x _ _ => (intOf x).toNat)
    case atStart => exact ⟨⟨U, [], HU.out, rfl, rfl, by simp, by simp⟩, Below.refl _ _⟩
    case round =>
      obtain ⟨⟨q, t, hq, rfl, rfl, hd, ht20⟩, hbel⟩ := hrel
      have hsz := hbel.size
      have hq0 : (0 : Int) ≤ (q : Int) := by omega
      have hcv := conv_one wr (48 + q % 10) (by omega)
      rw [show ((48 + q % 10 : Nat) : Int) = 48 + (q : Int) % 10 by omega] at hcv
      obtain ⟨hs1, hs2⟩ := digits_step q t _ hd
      have hwr : IntKind.u64.wrap ((q : Int) / 10) = (q : Int) / 10 := by rw [IntKind.wrap_u64]; omega
      have HQ := hidD hq
      generalize hx : UInt8.ofNat (48 + q % 10) = x at hs1 hs2 hcv
      have hadd := add_ba [x] t (by simp; omega)
      rw [List.singleton_append] at hadd
      have H1 := hidD hs1
      have H2 := hidD hs2
      have hbw := hidD (hbel.alloc hsz (.cells #[.int .u8 (48 + (q : Int) % 10)] 5))
      clear hd hs1 hs2 hx hq
      by_cases h10 : q < 10
      · have hq1 : ((q : Int) / 10 == 0) = true := beq_iff_eq.2 (by omega)
        have HF := hidD (H1.out h10)
        have hadd2 := add_ba [45] (x :: t) (by simp; omega)
        rw [List.singleton_append] at hadd2
        have hfin : 45 :: (x :: t) = Lib.itoa n := by rw [HI.out, HF.out]
        rw [hfin] at hadd2
        have hadd3 : ∀ W, (Op.stringOp .add ⟨#[45]⟩ (ba (x :: t))).run Tryd.prog W = .ok (.string (ba (Lib.itoa n))) W := hadd2
        clear hfin hadd2
        go_wp2
        go_ret
        exact ⟨rfl, hbw.out⟩
      · have hq1 : ((q : Int) / 10 == 0) = false := beq_eq_false_iff_ne.2 (by omega)
        have HF := hidD (H2.out h10)
        have ht19 : (x :: t).length ≤ 20 := by
          have := congrArg List.length HF.out
          rw [Lib.decDigits_length, List.length_append, Lib.decDigits_length] at this
          have h19 := nDigits_le 19 U (by have := HU.out; rw [show (10 : Nat) ^ (19 + 1) = 100000000000000000000 from rfl]; omega)
          have := Lib.nDigits_pos (q / 10)
          omega
        have HT := hidD ht19
        clear ht19
        go_wp2
        go_roundw
        case rel => exact ⟨⟨q / 10, x :: t, by have := HQ.out; omega, by go_num, rfl, HF.out, HT.out⟩, hbw.out⟩
        case measure => simp [intOf]; omega
  · have hit : Lib.itoa n = Lib.decDigits n.natAbs := by unfold Lib.itoa; rw [if_neg hn]; congr 1; omega
    have hx := pos_u64 n (by omega) h1
    have hn' : (0 : Int) ≤ n := by omega
    have hUb : n.natAbs ≤ 9223372036854775808 := by omega
    generalize n.natAbs = U at hit hx hUb
    have HI := hidD hit
    have HU := hidD hUb
    clear hit hUb
    go_enter Tryd.func28, Tryd.ntmps28
    go_wp2
    clear hx
    go_loopw [3, 4] (fun x y wr => Hid (DecR U x y) ∧ Below w.heap.size w wr) (fun x _ _ => (intOf x).toNat)
    case atStart => exact ⟨⟨U, [], HU.out, rfl, rfl, by simp, by simp⟩, Below.refl _ _⟩
    case round =>
      obtain ⟨⟨q, t, hq, rfl, rfl, hd, ht20⟩, hbel⟩ := hrel
      have hsz := hbel.size
      have hq0 : (0 : Int) ≤ (q : Int) := by omega
      have hcv := conv_one wr (48 + q % 10) (by omega)
      rw [show ((48 + q % 10 : Nat) : Int) = 48 + (q : Int) % 10 by omega] at hcv
      obtain ⟨hs1, hs2⟩ := digits_step q t _ hd
      have hwr : IntKind.u64.wrap ((q : Int) / 10) = (q : Int) / 10 := by rw [IntKind.wrap_u64]; omega
      have HQ := hidD hq
      generalize hx : UInt8.ofNat (48 + q % 10) = x at hs1 hs2 hcv
      have hadd := add_ba [x] t (by simp; omega)
      rw [List.singleton_append] at hadd
      have H1 := hidD hs1
      have H2 := hidD hs2
      have hbw := hidD (hbel.alloc hsz (.cells #[.int .u8 (48 + (q : Int) % 10)] 5))
      clear hd hs1 hs2 hx hq
      by_cases h10 : q < 10
      · have hq1 : ((q : Int) / 10 == 0) = true := beq_iff_eq.2 (by omega)
        have HF := hidD (H1.out h10)
        have HFI : Hid (ba (x :: t) = ba (Lib.itoa n)) := by unfold Hid; rw [HI.out, HF.out]
        go_wp2
        go_ret
        exact ⟨by rw [← HFI.out]; rfl, hbw.out⟩
      · have hq1 : ((q : Int) / 10 == 0) = false := beq_eq_false_iff_ne.2 (by omega)
        have HF := hidD (H2.out h10)
        have ht19 : (x :: t).length ≤ 20 := by
          have := congrArg List.length HF.out
          rw [Lib.decDigits_length, List.length_append, Lib.decDigits_length] at this
          have h19 := nDigits_le 19 U (by have := HU.out; rw [show (10 : Nat) ^ (19 + 1) = 100000000000000000000 from rfl]; omega)
          have := Lib.nDigits_pos (q / 10)
          omega
        have HT := hidD ht19
        clear ht19
        go_wp2
        go_roundw
        case rel => exact ⟨⟨q / 10, x :: t, by have := HQ.out; omega, by go_num, rfl, HF.out, HT.out⟩, hbw.out⟩
        case measure => simp [intOf]; omega
theorem words_any (w : World) : Calls Tryd.prog 29 #[] w fun e w' => e = .returned (.slice (some ⟨w.heap.size, 0, none⟩) 29 29) ∧ (∀ k, k < 29 → w'.cell? ⟨w.heap.size, k, none⟩ = some (.string (ba (tab.getD (k + 2) [])))) ∧ Below w.heap.size w w' := by
  go_enter Tryd.func29, Tryd.ntmps29
  go_wp2
  go_ret
  refine ⟨rfl, fun k hk => ?_, (Below.refl _ _).alloc (Nat.le_refl _) _⟩
  rw [World.cell?_alloc_new]
  show (((tab.drop 2).map fun l => Value.string (ba l)).toArray)[k]? = _
  have hl : k + 2 < tab.length := by show k + 2 < 31; omega
  simp [List.getElem?_eq_getElem hl]
  rw [Nat.add_comm 2 k]
  simp [List.getElem?_eq_getElem hl]
end Go.Proofs.YtaaijlkjbmpegaaDoor
