/- The law SumTurns' walk: it answers true, whatever row of strings comes in; it writes nothing that was there. -/
import Derived.Test.YtkgmifomeniggaaDoorOwnB
import Derived.Deep.RegionHeld3
import Derived.Deep.Cut
import Derived.Deep.CutRange
import Derived.WalkSmall
import Derived.StillTailTactics
namespace Go.Proofs.YtkgmifomeniggaaDoor
open Go.RowKit
set_option linter.unusedVariables false

set_option maxRecDepth 100000 in
set_option maxHeartbeats 1600000 in
theorem lawturns (a : Option Addr) (len cap : Nat) (w : World) (h : Strs w a len) (hh : Halves w) :
    Calls Tryd.prog 4 #[.slice a len cap] w fun e w' => e = .returned (.bool true) ∧ Below w.heap.size w w' := by
  obtain ⟨hm, h⟩ := h
  unfold maxLen at hm
  rcases h with h0 | ⟨b, off, rfl, hb, hat⟩
  · have h0' : ((len : Nat) : Int) ≤ 0 := by omega
    go_enter Tryd.func4, Tryd.ntmps4
    go_wp2
    go_loop [3] (fun i => i = .int .i64 0) (fun _ => 0)
    case atStart => rfl
    case round =>
      subst hrel
      go_wp2_with (go_at_call 7; refine (wakes_any _ hh).mono ?_; rintro e w' ⟨rfl, rfl⟩)
      go_ret
      exact ⟨rfl, Below.refl _ _⟩
  · go_enter Tryd.func4, Tryd.ntmps4
    go_wp2
    go_loopw [3] (fun i wr => ∃ k : Nat, k ≤ len ∧ k ≤ 15 ∧ i = .int .i64 k ∧ Below w.heap.size w wr) (fun i _ => 15 - (intOf i).toNat)
    case atStart => exact ⟨0, by omega, by omega, rfl, Below.refl _ _⟩
    case round =>
      obtain ⟨k, hk, hk15, rfl, hbel⟩ := hrel
      have hhr := hh.below hbel hh.pos
      by_cases hlt : k < len ∧ k < 15
      · obtain ⟨hlt, hlt15⟩ := hlt
        obtain ⟨x, hA0, hx⟩ := hat k hlt
        have hA := (hbel.cell (p := ⟨b, off + k, none⟩) hb).trans hA0
        clear hat
        by_cases hg : 200 < x.size
        · go_wp2
          go_roundw
          case rel => exact ⟨k + 1, by omega, by omega, by go_num, hbel⟩
          case measure => simp [intOf]; omega
        · go_wp2_with (go_at_call 5; refine (sum_any _ _ hx hhr).mono ?_; rintro e w' ⟨rfl, rfl⟩)
          clear hA hhr
          have Hbel : Hid (Below w.heap.size w _) := hbel
          go_loopw [5] (fun i wr => ∃ j : Nat, j ≤ x.size ∧ i = .int .i64 j ∧ Below w.heap.size w wr) (fun i _ => x.size - (intOf i).toNat)
          case atStart => exact ⟨0, by omega, rfl, hbel⟩
          case round =>
            clear Hbel hbel
            obtain ⟨j, hj, rfl, hbel⟩ := hrel
            have hhr := hh.below hbel hh.pos
            have hA := (hbel.cell (p := ⟨b, off + k, none⟩) hb).trans hA0
            by_cases hjl : j < x.size
            · obtain ⟨W1, cap1, hcv, hb1, hown⟩ := toBytesB hbel x
              go_wp2_with fail
              have hxl : x.data.toList.length = x.size := by simp
              obtain ⟨m, hm8, hmk⟩ : ∃ m : Nat, m < 8 ∧ ((j : Int) + (k : Int)) % 8 = (m : Int) := ⟨(j + k) % 8, by omega, by omega⟩
              have hwr : IntKind.i64.wrap ((j : Int) + (k : Int)) = (j : Int) + (k : Int) := IntWalk.i64_in _ (by omega)
              have hc1 := hown.cell j (by omega)
              have hf1 := hown.free j (by omega)
              have hbel1 := hbel.trans (hb1.mono hbel.size)
              clear hcv hA hhr
              go_cut [] from 28 to 81 (fun wx => OwnB wx wr.heap.size (x.data.toList.set j (x.data.toList.getD j 0 ^^^ turn m)) ∧ Below w.heap.size w wx)
              case first =>
                refine wp_region_still_tail 13 (Checked.mixed Tryd.checked) (by kernel_rfl) ?_
                simp only [List.take_succ_cons, List.take_zero, List.drop_succ_cons, List.drop_zero]
                repeat still_step
                still_call (within_any _ m _ (by omega) (by omega) hmk)
                repeat still_step
                refine wpStill_nil ?_
                change wpList _ _ _ _ _ W1.drew
                go_wp2_with fail
                go_meet
                case rel => exact ⟨(hown.set (by omega) _ _ (turn_cell x j m _ hm8)).drew, (hbel1.setCell hbel.size _).drew⟩
              case rest =>
                obtain ⟨hown2, hbel2⟩ := hcut
                have hne1 := turned_one x.data.toList j m (by omega) hm8
                have hne2 : j + 1 < x.size → ∀ c : UInt8, _ := fun h => turned_two x.data.toList j m (by omega) hm8
                have hnx := set_next x.data.toList j (x.data.toList.getD j 0 ^^^ turn m)
                have hl1 : (x.data.toList.set j (x.data.toList.getD j 0 ^^^ turn m)).length = x.size := by rw [List.length_set, hxl]
                clear hc1 hf1 hown hb1 hbel1
                generalize x.data.toList.set j (x.data.toList.getD j 0 ^^^ turn m) = l1 at hown2 hne1 hne2 hnx hl1
                have hh2 := hh.below hbel2 hh.pos
                have hcv2 := ofBytes (cap := cap1) hown2
                rw [hl1] at hcv2
                have hs2 : (ByteArray.mk l1.toArray).size ≤ maxLen := by rw [show (ByteArray.mk l1.toArray).size = l1.length by simp [ByteArray.size], hl1]; exact hx
                have hn1 : (wd (crc l1) == wd (crc x.data.toList)) = false := by
                  rw [beq_eq_false_iff_ne]
                  exact fun e => hne1 (wd_inj e)
                by_cases hj1 : j + 1 < x.size
                · have hc2 := hown2.cell (j + 1) (by omega)
                  have hf2 := hown2.free (j + 1) (by omega)
                  have hne3 := hne2 hj1 (UInt8.ofNat j)
                  rw [hnx] at hc2
                  generalize x.data.toList.getD (j + 1) 0 = c at hc2 hne3
                  generalize hd : c ^^^ UInt8.ofNat j = d at hne3
                  have hx3 := xor_nat c d j (by omega) hd
                  have hx3' : bits .xor .u8 ((c.toNat : Nat) : Int) ((j : Int) % 256) = ((d.toNat : Nat) : Int) := by rw [← hx3]; congr 1; omega
                  have hown3 := hown2.set (k := j + 1) (by omega) d _ rfl
                  have hbel3 := hbel2.setCell (p := ⟨wr.heap.size, j + 1, none⟩) hbel.size (.int .u8 ((d.toNat : Nat) : Int))
                  have hh3 := hh.below hbel3 hh.pos
                  have hcv3 := ofBytes (cap := cap1) hown3
                  have hl2 : (l1.set (j + 1) d).length = x.size := by rw [List.length_set, hl1]
                  rw [hl2] at hcv3
                  have hs3 : (ByteArray.mk (l1.set (j + 1) d).toArray).size ≤ maxLen := by rw [show (ByteArray.mk (l1.set (j + 1) d).toArray).size = (l1.set (j + 1) d).length by simp [ByteArray.size], hl2]; exact hx
                  have hn3 : (wd (crc (l1.set (j + 1) d)) == wd (crc x.data.toList)) = false := by
                    rw [beq_eq_false_iff_ne]
                    exact fun e => hne3 (wd_inj e)
                  clear hd hne1 hne2 hne3 hnx hown3 hown2
                  generalize l1.set (j + 1) d = l2 at hcv3 hl2 hs3 hn3
                  go_wp2_with (go_at_call 5; refine (sum_any _ _ (by assumption) (by assumption)).mono ?_; rintro e w' ⟨rfl, rfl⟩; rw [data_mk])
                  go_roundw
                  case rel => exact ⟨j + 1, by omega, by go_num, hbel3⟩
                  case measure => simp [intOf]; omega
                · go_wp2_with (go_at_call 5; refine (sum_any _ _ hs2 hh2).mono ?_; rintro e w' ⟨rfl, rfl⟩; rw [data_mk])
                  go_roundw
                  case rel => exact ⟨j + 1, by omega, by go_num, hbel2⟩
                  case measure => simp [intOf]; omega
            · go_wp2
              go_roundw
              case rel => exact ⟨k + 1, by omega, by omega, by go_num, hbel⟩
              case measure => simp [intOf]; omega
      · go_wp2_with (go_at_call 7; refine (wakes_any _ hhr).mono ?_; rintro e w' ⟨rfl, rfl⟩)
        all_goals (go_ret; exact ⟨rfl, hbel⟩)
end Go.Proofs.YtkgmifomeniggaaDoor
