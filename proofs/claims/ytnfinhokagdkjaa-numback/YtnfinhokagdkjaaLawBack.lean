/- The law NumBack's walk: it answers true, whatever row comes in; it writes nothing that was there. -/
import Derived.Test.YtnfinhokagdkjaaBack
import Derived.Test.YtnfinhokagdkjaaShift
import Derived.Test.YtnfinhokagdkjaaFour
import Derived.Deep.QuietTactic
import Derived.BigQuiet
import Derived.Deep.RegionHeld3
import Derived.WalkSmall
namespace Go.Proofs.Ytnfinhokagdkjaa
open Go.RowKit
set_option linter.unusedVariables false

/-- What holds of the world in the rounds: nothing old has turned; the ask's number and string lie where they lay. -/
structure BackRel (w W : World) (b o : Nat) (n : Int) (x : ByteArray) : Prop where
  bel : Below w.heap.size w W
  num : W.cell? ⟨b, o, none⟩ = some (.int .i64 n)
  str : W.cell? ⟨b, o + 3, none⟩ = some (.string x)
theorem BackRel.step {w W W' : World} {b o : Nat} {n : Int} {x : ByteArray} (h : BackRel w W b o n x) (hb : b < w.heap.size) (hw : Below W.heap.size W W') : BackRel w W' b o n x :=
  ⟨h.bel.trans (hw.mono h.bel.size), (hw.cell (p := ⟨b, o, none⟩) (Nat.lt_of_lt_of_le hb h.bel.size)).trans h.num, (hw.cell (p := ⟨b, o + 3, none⟩) (Nat.lt_of_lt_of_le hb h.bel.size)).trans h.str⟩

theorem within_any (w : World) : Calls Try.prog 24 #[.int .i64 3, .int .i64 2] w fun e w' => e = .returned (.int .i64 1) ∧ w' = w := by
  go_enter Try.func24, Try.ntmps24
  go_wp2
  go_ret
  exact ⟨rfl, rfl⟩

set_option maxRecDepth 100000 in
set_option maxHeartbeats 1600000 in
theorem lawback (a : Option Addr) (len cap : Nat) (w : World) (h : Asks w a len) :
    Calls Try.prog 7 #[.slice a len cap] w fun e w' => e = .returned (.bool true) ∧ Below w.heap.size w w' := by
  obtain ⟨hm, h⟩ := h
  unfold maxLen at hm
  rcases h with h0 | ⟨b, off, rfl, hb, hat⟩
  · have h0' : ((len : Nat) : Int) ≤ 0 := by omega
    go_enter Try.func7, Try.ntmps7
    go_wp2
    go_loop [3] (fun i => i = .int .i64 0) (fun _ => 0)
    case atStart => rfl
    case round =>
      subst hrel
      go_wp2_with (first | (go_at_call 24; refine (within_any _).mono ?_; rintro e w' ⟨rfl, rfl⟩) | (go_at_call 14; refine (wakes_any _).mono ?_; rintro e w2 ⟨rfl, hbel⟩))
      go_ret
      exact ⟨rfl, hbel⟩
  · go_enter Try.func7, Try.ntmps7
    go_wp2
    go_loopw [3] (fun i wr => ∃ k : Nat, k ≤ len ∧ k ≤ 15 ∧ i = .int .i64 k ∧ Below w.heap.size w wr) (fun i _ => 15 - (intOf i).toNat)
    case atStart => exact ⟨0, by omega, by omega, rfl, Below.refl _ _⟩
    case round =>
      obtain ⟨k, hk, hk15, rfl, hbel⟩ := hrel
      have hsz := hbel.size
      by_cases hlt : k < len ∧ k < 15
      · obtain ⟨hlt, hlt15⟩ := hlt
        obtain ⟨n, by', bits, x, hA0⟩ := hat k hlt
        have hA := hA0.below hbel hb
        have c0 := hA.c0
        have c1 := hA.c1
        have c2 := hA.c2
        have c3 := hA.c3
        have hx := hA.r3
        obtain ⟨hn1, hn2⟩ := hA.r0
        have hR0 : BackRel w wr b (off + k * 4) n x := ⟨hbel, hA.c0, hA.c3⟩
        have hd15 : decide ((k : Int) < 15) = true := by simp; omega
        clear hat hA hA0
        go_wp2_with fail
        refine (heavy_any n by' bits x _).mono ?_
        rintro e w1 ⟨rfl, hb1⟩
        have hR := hR0.step hb hb1
        clear c0 c1 c2 c3 hR0 hb1 hsz hbel
        by_cases hh : 3000 < x.size
        · have hh' : decide (3000 < (x.size : Int)) = true := by simp; omega
          go_wp2
          go_ret
          exact ⟨rfl, hR.bel⟩
        · have hh' : decide (3000 < (x.size : Int)) = false := by simp; omega
          go_wp2
          go_loopw [4] (fun j W => ∃ m : Nat, m ≤ 70 ∧ j = .int .i64 m ∧ BackRel w W b (off + k * 4) n x) (fun j _ => 70 - (intOf j).toNat)
          case atStart => exact ⟨0, by omega, rfl, hR⟩
          case round =>
            clear hR
            obtain ⟨m, hm70, rfl, hR⟩ := hrel
            have c0 := hR.num
            have c3 := hR.str
            by_cases hm64 : m < 64
            · have hd64 : decide ((m : Int) < 64) = true := by simp; omega
              have hv : -9223372036854775808 ≤ n / 2 ^ m ∧ n / 2 ^ m ≤ 9223372036854775807 := shR_bd n m hn1 hn2
              go_wp2_with fail
              generalize n / 2 ^ m = v at hv ⊢
              obtain ⟨hv1, hv2⟩ := hv
              refine (bytes_any v _ hv1 hv2).mono ?_
              rintro e w2 ⟨rfl, hb2⟩
              have hR2 := hR.step hb hb2
              clear hR c0 c3 hb2
              have c3 := hR2.str
              have hl10 := bytes_len v
              have hl10' : decide ((10 : Int) < ((bytesOf v).size : Int)) = false := by simp; omega
              have hsum : ((bytesOf v) ++ x).size ≤ maxLen := by rw [ByteArray.size_append]; unfold maxLen; omega
              have hadd : ∀ W, (Op.stringOp .add (bytesOf v) x).run Try.prog W = .ok (.string ((bytesOf v) ++ x)) W := fun W => run_string_add_sum W _ _ (by omega)
              go_wp2_with fail
              refine (num1_any _ _ hsum).mono ?_
              rw [take_bytes v hv1 hv2 x]
              rintro e w3 ⟨rfl, rfl⟩
              by_cases hsm : -64 ≤ v ∧ v < 64
              · obtain ⟨s1, s2⟩ := hsm
                have s1' : decide (-64 ≤ v) = true := by simp; omega
                have s2' : decide (v < 64) = true := by simp; omega
                have hone : (((bytesOf v).size : Int) != 1) = false := by rw [bytes_small v s1 s2]; rfl
                go_wp2
                go_loop [10] (fun j => ∃ t : Nat, t ≤ (bytesOf v).size ∧ j = .int .i64 t) (fun j => (bytesOf v).size - (intOf j).toNat)
                case atStart => exact ⟨0, by omega, rfl⟩
                case round =>
                  obtain ⟨t, ht, rfl⟩ := hrel
                  by_cases hts : t < (bytesOf v).size
                  · have hcs : ((bytesOf v).extract 0 t).size ≤ maxLen := by rw [ByteArray.size_extract]; unfold maxLen; omega
                    have hcut := take_cut v hv1 hv2 t hts
                    have HC : Hid (takeOf ((bytesOf v).extract 0 t) = (0, 0, 6)) := hcut
                    clear hcut
                    go_wp2_with fail
                    refine (num1_any _ _ hcs).mono ?_
                    rw [HC.out]
                    rintro e w4 ⟨rfl, rfl⟩
                    go_wp2
                    go_round
                    case rel => exact ⟨t + 1, by omega, by go_num⟩
                    case measure => simp [intOf]; omega
                  · go_wp2
                    go_roundw
                    case rel => exact ⟨m + 7, by omega, by go_num, hR2⟩
                    case measure => simp [intOf]; omega
              · by_cases s1 : -64 ≤ v
                · have s1' : decide (-64 ≤ v) = true := by simp; omega
                  have s2' : decide (v < 64) = false := by simp; omega
                  clear hsm
                  go_wp2
                  go_loop [10] (fun j => ∃ t : Nat, t ≤ (bytesOf v).size ∧ j = .int .i64 t) (fun j => (bytesOf v).size - (intOf j).toNat)
                  case atStart => exact ⟨0, by omega, rfl⟩
                  case round =>
                    obtain ⟨t, ht, rfl⟩ := hrel
                    by_cases hts : t < (bytesOf v).size
                    · have hcs : ((bytesOf v).extract 0 t).size ≤ maxLen := by rw [ByteArray.size_extract]; unfold maxLen; omega
                      have hcut := take_cut v hv1 hv2 t hts
                      have HC : Hid (takeOf ((bytesOf v).extract 0 t) = (0, 0, 6)) := hcut
                      clear hcut
                      go_wp2_with fail
                      refine (num1_any _ _ hcs).mono ?_
                      rw [HC.out]
                      rintro e w4 ⟨rfl, rfl⟩
                      go_wp2
                      go_round
                      case rel => exact ⟨t + 1, by omega, by go_num⟩
                      case measure => simp [intOf]; omega
                    · go_wp2
                      go_roundw
                      case rel => exact ⟨m + 7, by omega, by go_num, hR2⟩
                      case measure => simp [intOf]; omega
                · have s1' : decide (-64 ≤ v) = false := by simp; omega
                  clear hsm
                  go_wp2
                  go_loop [10] (fun j => ∃ t : Nat, t ≤ (bytesOf v).size ∧ j = .int .i64 t) (fun j => (bytesOf v).size - (intOf j).toNat)
                  case atStart => exact ⟨0, by omega, rfl⟩
                  case round =>
                    obtain ⟨t, ht, rfl⟩ := hrel
                    by_cases hts : t < (bytesOf v).size
                    · have hcs : ((bytesOf v).extract 0 t).size ≤ maxLen := by rw [ByteArray.size_extract]; unfold maxLen; omega
                      have hcut := take_cut v hv1 hv2 t hts
                      have HC : Hid (takeOf ((bytesOf v).extract 0 t) = (0, 0, 6)) := hcut
                      clear hcut
                      go_wp2_with fail
                      refine (num1_any _ _ hcs).mono ?_
                      rw [HC.out]
                      rintro e w4 ⟨rfl, rfl⟩
                      go_wp2
                      go_round
                      case rel => exact ⟨t + 1, by omega, by go_num⟩
                      case measure => simp [intOf]; omega
                    · go_wp2
                      go_roundw
                      case rel => exact ⟨m + 7, by omega, by go_num, hR2⟩
                      case measure => simp [intOf]; omega
            · obtain ⟨m0, j0, e0, hT⟩ : ∃ m0 j0 e0, takeOf x = (m0, j0, e0) := ⟨_, _, _, rfl⟩
              go_wp2_with fail
              refine (num1_any _ _ hx).mono ?_
              rw [hT]
              rintro e w2 ⟨rfl, rfl⟩
              by_cases he : e0 = 0
              · subst he
                obtain ⟨q, hq, hq2, hm1, hm2, HE⟩ := take_back x m0 j0 hT
                subst hq
                have hbe : Hid (bytesOf m0 = x.extract 0 q) := HE
                clear HE
                have hge : decide ((q : Int) < 0) = false := by simp
                have hle : decide ((x.size : Int) < (q : Int)) = false := by simp; omega
                have hleN : decide (x.size < q) = false := by simp; omega
                have hleA : (q : Int) ≤ (x.size : Int) := by omega
                go_wp2
                go_region_held3 (fun W => W.cell? ⟨b, off + k * 4 + 3, none⟩ = some (.string x) ∧ Below w.heap.size w W) (first | exact keepS (by assumption) (by assumption) hb | exact ⟨by simp [c3], hR.bel.drew⟩)
                  (first | (go_at_call 12; refine (bytes_any m0 _ hm1 hm2).mono ?_; rw [hbe.out]; rintro e w' ⟨rfl, hb2⟩))
                obtain ⟨_, hbelW⟩ := ‹_ ∧ Below w.heap.size w _›
                go_wp2
                go_roundw
                case rel => exact ⟨k + 1, by omega, by omega, by go_num, hbelW⟩
                case measure => simp [intOf]; omega
              · have he' : (e0 == 0) = false := by simp; omega
                go_wp2
                go_quiet (fail)
                go_wp2
                go_roundw
                case rel => exact ⟨k + 1, by omega, by omega, by go_num, below_drewN hR.bel _⟩
                case measure => simp [intOf]; omega
      · by_cases hl : k < len
        · have h15 : (15 : Int) ≤ k := by omega
          clear hlt
          go_wp2_with (first | (go_at_call 24; refine (within_any _).mono ?_; rintro e w' ⟨rfl, rfl⟩) | (go_at_call 14; refine (wakes_any _).mono ?_; rintro e w2 ⟨rfl, hw⟩))
          go_ret
          exact ⟨rfl, hbel.trans (hw.mono hsz)⟩
        · clear hlt
          go_wp2_with (first | (go_at_call 24; refine (within_any _).mono ?_; rintro e w' ⟨rfl, rfl⟩) | (go_at_call 14; refine (wakes_any _).mono ?_; rintro e w2 ⟨rfl, hw⟩))
          go_ret
          exact ⟨rfl, hbel.trans (hw.mono hsz)⟩
end Go.Proofs.Ytnfinhokagdkjaa
