/- The page's own Bytes: what it answers, for every number. -/
import Derived.Test.YtaagllbcmgnbnaaGreatDoorMB2
namespace Go.Proofs.YtaagllbcmgnbnaaGreatDoor
open Go.RowKit
set_option linter.unusedVariables false
set_option maxRecDepth 100000

set_option maxHeartbeats 400000 in
theorem rbytes_any (n : Int) (w : World) (h1 : -9223372036854775808 ≤ n) (h2 : n ≤ 9223372036854775807) :
    Calls Tryz.prog 165 #[.int .i64 n] w fun e w' => e = .returned (.string (bytesOf n)) ∧ Below w.heap.size w w' := by
  obtain ⟨i0, hi, hz0, hz1, hz2⟩ := info_parts Tryz.info5
  obtain ⟨z0, z1⟩ := zig_bd n h1 h2
  by_cases hneg : n < 0
  · have hz : 18446744073709551615 - IntKind.u64.wrap (IntKind.u64.wrap n * 2) = zig n := by rw [IntKind.wrap_u64, IntKind.wrap_u64, zig, if_pos hneg]; omega
    have hx := not_u64 (IntKind.u64.wrap (IntKind.u64.wrap n * 2)) (by rw [IntKind.wrap_u64]; omega) (by rw [IntKind.wrap_u64]; omega)
    have HZ : Hid (bits .xor .u64 IntKind.u64.max (IntKind.u64.wrap (IntKind.u64.wrap n * 2)) = zig n) := hx.trans hz
    clear hz hx
    go_enter Tryz.func165, Tryz.ntmps165
    go_wp2
    go_loopw [4, 3] (fun v u wr => ∃ (l : List Int) (x : Int), u = .int .u64 x ∧ x ≤ 18446744073709551615 ∧ Left (zig n) x l ∧ wr.ownsRow w.heap.size 5 1 v l.length (l.map (Value.int .u8)) ∧ Below w.heap.size w wr)
      (fun _ u _ => (intOf u).toNat)
    case atStart => exact ⟨[], _, rfl, by rw [HZ.out]; exact z1, by rw [HZ.out]; exact left_start _ z0 z1, World.ownsRow_nil _ _ _ _, Below.refl _ _⟩
    case round =>
      obtain ⟨l, x, rfl, hxm, hL, hown, hb⟩ := hrel
      have hx0 := left_pos hL
      have hlen := left_len hL
      have hsz := hb.size
      by_cases hx : x < 128
      · have HE : Hid (l ++ [x] = grp 10 (zig n)) := left_end hL hx
        go_wp2_with (at_builtin; refine wpList_append_own _ rfl _ _ 155 rfl w.heap.size 5 i0 (.int .u8 0) 1 1 Tryz.underlying155 hi hz0 hz1 hz2 rfl (by decide) _ _ _ rfl (hown.alloc _) ⟨wr.heap.size, 0, none⟩ 1 1 [.int .u8 x] rfl rfl ?c1a ?c2a ?c3a ?c4a ?c5a ?_)
        case c1a =>
          intro j u hj
          match j, hj with
          | 0, hj => simp at hj; subst hj; simp [Addr.add]
        case c2a => first | rfl | (intro u hu; simp at hu; subst hu; rfl)
        case c3a => unfold maxLen; omega
        case c4a => omega
        case c5a => simp; omega
        intro v2 w2 hown2 hgrow2 _
        have hown3 : w2.ownsRow w.heap.size 5 1 v2 (grp 10 (zig n)).length ((grp 10 (zig n)).map (Value.int .u8)) := by rw [← HE.out]; simpa using hown2
        have hcv := conv_own hown3 (by rw [← HE.out]; simp)
        have hbel : Below w.heap.size w w2 := (hb.alloc hsz _).grown hgrow2 (by simp; omega) (fun k hk => by
          rcases hown.2 with ⟨rfl, _⟩ | ⟨g, cap, cur, rfl, hg, _⟩
          · cases hk
          · cases hk; exact hg)
        clear hown2 hgrow2 hown hown3
        go_wp2
        go_ret
        exact ⟨rfl, hbel⟩
      · have HE := left_step hL hx
        have hx' : 128 ≤ x := by omega
        go_wp2_with (at_builtin; refine wpList_append_own _ rfl _ _ 155 rfl w.heap.size 5 i0 (.int .u8 0) 1 1 Tryz.underlying155 hi hz0 hz1 hz2 rfl (by decide) _ _ _ rfl (hown.alloc _) ⟨wr.heap.size, 0, none⟩ 1 1 [.int .u8 (x % 128 + 128)] rfl rfl ?d1a ?d2a ?d3a ?d4a ?d5a ?_)
        case d2a => first | rfl | (intro u hu; simp at hu; subst hu; rfl)
        case d3a => unfold maxLen; omega
        case d4a => omega
        case d5a => first | omega | (simp; omega)
        intro v2 w2 hown2 hgrow2 _
        have hown3 : w2.ownsRow w.heap.size 5 1 v2 (l ++ [x % 128 + 128]).length ((l ++ [x % 128 + 128]).map (Value.int .u8)) := by simpa using hown2
        have hbel : Below w.heap.size w w2 := (hb.alloc hsz _).grown hgrow2 (by simp; omega) (fun k hk => by
          rcases hown.2 with ⟨rfl, _⟩ | ⟨g, cap, cur, rfl, hg, _⟩
          · cases hk
          · cases hk; exact hg)
        clear hown2 hgrow2 hown
        go_wp2
        go_roundw
        case rel => exact ⟨_, _, rfl, by omega, HE, hown3, hbel⟩
        case measure => simp [intOf]; omega
  · have HZ : Hid (n * 2 = zig n) := by unfold Hid zig; rw [if_neg hneg]; omega
    have hpos : 0 ≤ n := by omega
    clear hneg
    go_enter Tryz.func165, Tryz.ntmps165
    go_wp2
    go_loopw [4, 3] (fun v u wr => ∃ (l : List Int) (x : Int), u = .int .u64 x ∧ x ≤ 18446744073709551615 ∧ Left (zig n) x l ∧ wr.ownsRow w.heap.size 5 1 v l.length (l.map (Value.int .u8)) ∧ Below w.heap.size w wr)
      (fun _ u _ => (intOf u).toNat)
    case atStart => exact ⟨[], _, rfl, by rw [HZ.out]; exact z1, by rw [HZ.out]; exact left_start _ z0 z1, World.ownsRow_nil _ _ _ _, Below.refl _ _⟩
    case round =>
      obtain ⟨l, x, rfl, hxm, hL, hown, hb⟩ := hrel
      have hx0 := left_pos hL
      have hlen := left_len hL
      have hsz := hb.size
      by_cases hx : x < 128
      · have HE : Hid (l ++ [x] = grp 10 (zig n)) := left_end hL hx
        go_wp2_with (at_builtin; refine wpList_append_own _ rfl _ _ 155 rfl w.heap.size 5 i0 (.int .u8 0) 1 1 Tryz.underlying155 hi hz0 hz1 hz2 rfl (by decide) _ _ _ rfl (hown.alloc _) ⟨wr.heap.size, 0, none⟩ 1 1 [.int .u8 x] rfl rfl ?c1b ?c2b ?c3b ?c4b ?c5b ?_)
        case c1b =>
          intro j u hj
          match j, hj with
          | 0, hj => simp at hj; subst hj; simp [Addr.add]
        case c2b => first | rfl | (intro u hu; simp at hu; subst hu; rfl)
        case c3b => unfold maxLen; omega
        case c4b => omega
        case c5b => simp; omega
        intro v2 w2 hown2 hgrow2 _
        have hown3 : w2.ownsRow w.heap.size 5 1 v2 (grp 10 (zig n)).length ((grp 10 (zig n)).map (Value.int .u8)) := by rw [← HE.out]; simpa using hown2
        have hcv := conv_own hown3 (by rw [← HE.out]; simp)
        have hbel : Below w.heap.size w w2 := (hb.alloc hsz _).grown hgrow2 (by simp; omega) (fun k hk => by
          rcases hown.2 with ⟨rfl, _⟩ | ⟨g, cap, cur, rfl, hg, _⟩
          · cases hk
          · cases hk; exact hg)
        clear hown2 hgrow2 hown hown3
        go_wp2
        go_ret
        exact ⟨rfl, hbel⟩
      · have HE := left_step hL hx
        have hx' : 128 ≤ x := by omega
        go_wp2_with (at_builtin; refine wpList_append_own _ rfl _ _ 155 rfl w.heap.size 5 i0 (.int .u8 0) 1 1 Tryz.underlying155 hi hz0 hz1 hz2 rfl (by decide) _ _ _ rfl (hown.alloc _) ⟨wr.heap.size, 0, none⟩ 1 1 [.int .u8 (x % 128 + 128)] rfl rfl ?d1b ?d2b ?d3b ?d4b ?d5b ?_)
        case d2b => first | rfl | (intro u hu; simp at hu; subst hu; rfl)
        case d3b => unfold maxLen; omega
        case d4b => omega
        case d5b => first | omega | (simp; omega)
        intro v2 w2 hown2 hgrow2 _
        have hown3 : w2.ownsRow w.heap.size 5 1 v2 (l ++ [x % 128 + 128]).length ((l ++ [x % 128 + 128]).map (Value.int .u8)) := by simpa using hown2
        have hbel : Below w.heap.size w w2 := (hb.alloc hsz _).grown hgrow2 (by simp; omega) (fun k hk => by
          rcases hown.2 with ⟨rfl, _⟩ | ⟨g, cap, cur, rfl, hg, _⟩
          · cases hk
          · cases hk; exact hg)
        clear hown2 hgrow2 hown
        go_wp2
        go_roundw
        case rel => exact ⟨_, _, rfl, by omega, HE, hown3, hbel⟩
        case measure => simp [intOf]; omega
end Go.Proofs.YtaagllbcmgnbnaaGreatDoor
