/- Texts laid together: YticpaemmdfmbfaaBytes, YticpaemmdfmbfaaTake. -/
import Derived.Test.YticpaemmdfmbfaaRows
import Derived.Test.YticpaemmdfmbfaaPlain
import Derived.WalkKit
import Derived.WalkSpells
import Derived.Test.YticpaemmdfmbfaaRetI
/- num.turn, num.turnBack, num.Bytes: what each answers, for every number. -/
namespace Go.Proofs.Yticpaemmdfmbfaa
open Go.RowKit
set_option linter.unusedVariables false
set_option maxRecDepth 100000

theorem turn_any (n : Int) (w : World) (h1 : -9223372036854775808 ≤ n) (h2 : n ≤ 9223372036854775807) :
    Calls Try.prog 98 #[.int .i64 n] w fun e w' => e = .returned (.int .u64 (zig n)) ∧ w' = w := by
  by_cases h0 : n < 0
  · have hz : 18446744073709551615 - IntKind.u64.wrap (IntKind.u64.wrap n * 2) = zig n := by rw [IntKind.wrap_u64, IntKind.wrap_u64, zig, if_pos h0]; omega
    have hx := not_u64 (IntKind.u64.wrap (IntKind.u64.wrap n * 2)) (by rw [IntKind.wrap_u64]; omega) (by rw [IntKind.wrap_u64]; omega)
    have H : Hid (bits .xor .u64 IntKind.u64.max (IntKind.u64.wrap (IntKind.u64.wrap n * 2)) = zig n) := hx.trans hz
    clear hz hx
    go_enter Try.func98, Try.ntmps98
    go_wp2
    go_ret
    exact ⟨ret_int H.out, rfl⟩
  · have H : Hid (n * 2 = zig n) := by unfold Hid zig; rw [if_neg h0]; omega
    have h0' : 0 ≤ n := by omega
    clear h0
    go_enter Try.func98, Try.ntmps98
    go_wp2
    go_ret
    exact ⟨ret_int H.out, rfl⟩

theorem turnBack_any (u : Int) (w : World) (h0 : 0 ≤ u) (h1 : u ≤ 18446744073709551615) :
    Calls Try.prog 111 #[.int .u64 u] w fun e w' => e = .returned (.int .i64 (zag u)) ∧ w' = w := by
  by_cases h : u % 2 = 1
  · have ht : (bits .and .u64 u 1 == 1) = true := by rw [and1 u h0 h1, h]; rfl
    have H : Hid (bits .xor .i64 (-1) (u / 2) = zag u) := by unfold Hid zag; rw [if_pos h, not_i64 _ (by omega) (by omega)]
    clear h
    go_enter Try.func111, Try.ntmps111
    go_wp2
    go_ret
    exact ⟨ret_int H.out, rfl⟩
  · have ht : (bits .and .u64 u 1 == 1) = false := by rw [and1 u h0 h1]; simp; omega
    have H : Hid (u / 2 = zag u) := by unfold Hid zag; rw [if_neg h]
    clear h
    go_enter Try.func111, Try.ntmps111
    go_wp2
    go_ret
    exact ⟨ret_int H.out, rfl⟩

theorem Try.info5 : (Try.prog.info? 5).map (fun i => (i.zero, i.size, i.bytes)) = some (some (.int .u8 0), 1, 1) := by kernel_rfl

theorem cell_of_row {w : World} {g : Nat} {cur : Array Value} {e : TypeId} {i : Nat} {v : Value} (hh : w.heap[g]? = some (.cells cur e (0, 0))) (hlt : i < cur.size) (he : cur[i]? = some v) : w.cell? ⟨g, i, none⟩ = some v := by
  simp [World.cell?, hh, he]

/-- A row of bytes that is owned, as a string. -/
theorem conv_own {w : World} {base : Nat} {v : Value} {xs : List Int} (h : w.ownsRow base 5 1 v xs.length (xs.map (Value.int .u8))) (hne : 0 < xs.length) :
    (convert 99 9 v).run Try.prog w = .ok (.string (strOfNums xs)) w := by
  obtain ⟨_, ⟨_, h0⟩ | ⟨g, cap, cur, rfl, hg, hh, hn, hc, hs, ht⟩⟩ := h
  · omega
  · refine run_convert_bytes_arg w 99 5 Try.underlying99 Try.underlying5 g 0 xs.length cap xs rfl ?_ 9 Try.underlying9
    intro i hi
    have e : cur.toList[i]? = some (.int .u8 (xs.getD i 0)) := by
      have : (cur.toList.take (xs.length * 1))[i]? = some (.int .u8 (xs.getD i 0)) := by rw [ht]; simp [hi, List.getD]
      rw [List.getElem?_take] at this
      split at this
      · exact this
      · exact absurd this (by simp)
    have hlt : i < cur.size := by rw [hs]; omega
    rw [Nat.zero_add]
    exact cell_of_row hh hlt (by simpa using e)

set_option maxHeartbeats 400000 in
theorem bytes_any (n : Int) (w : World) (h1 : -9223372036854775808 ≤ n) (h2 : n ≤ 9223372036854775807) :
    Calls Try.prog 77 #[.int .i64 n] w fun e w' => e = .returned (.string (bytesOf n)) ∧ Below w.heap.size w w' := by
  obtain ⟨i0, hi, hz0, hz1, hz2⟩ := info_parts Try.info5
  obtain ⟨z0, z1⟩ := zig_bd n h1 h2
  go_enter Try.func77, Try.ntmps77
  go_wp2_with (go_at_call 98; refine (turn_any n _ h1 h2).mono ?_; rintro e w' ⟨rfl, rfl⟩)
  go_loopw [3, 4] (fun v u wr => ∃ (l : List Int) (x : Int), u = .int .u64 x ∧ Left (zig n) x l ∧ wr.ownsRow w'.heap.size 5 1 v l.length (l.map (Value.int .u8)) ∧ Below w'.heap.size w' wr)
    (fun _ u _ => (intOf u).toNat)
  case atStart => exact ⟨[], _, rfl, left_start _ z0 z1, World.ownsRow_nil _ _ _ _, Below.refl _ _⟩
  case round =>
    obtain ⟨l, x, rfl, hL, hown, hb⟩ := hrel
    have hx0 := left_pos hL
    have hlen := left_len hL
    have hsz := hb.size
    by_cases hx : x < 128
    · have HE : Hid (l ++ [x] = grp 10 (zig n)) := left_end hL hx
      go_wp2_with (at_builtin; refine wpList_append_own _ rfl _ _ 99 rfl w'.heap.size 5 i0 (.int .u8 0) 1 1 Try.underlying99 hi hz0 hz1 hz2 rfl (by decide) _ _ _ rfl (hown.alloc _) ⟨wr.heap.size, 0, none⟩ 1 1 [.int .u8 x] rfl rfl ?c1 ?c2 ?c3 ?c4 ?c5 ?_)
      case c1 =>
        intro j u hj
        match j, hj with
        | 0, hj => simp at hj; subst hj; simp [Addr.add]
      case c2 => first | rfl | (intro u hu; simp at hu; subst hu; rfl)
      case c3 => unfold maxLen; omega
      case c4 => omega
      case c5 => simp; omega
      intro v2 w2 hown2 hgrow2 _
      have hown3 : w2.ownsRow w'.heap.size 5 1 v2 (grp 10 (zig n)).length ((grp 10 (zig n)).map (Value.int .u8)) := by rw [← HE.out]; simpa using hown2
      have hcv := conv_own hown3 (by rw [← HE.out]; simp)
      have hbel : Below w'.heap.size w' w2 := (hb.alloc hsz _).grown hgrow2 (by simp; omega) (fun k hk => by
        rcases hown.2 with ⟨rfl, _⟩ | ⟨g, cap, cur, rfl, hg, _⟩
        · cases hk
        · cases hk; exact hg)
      clear hown2 hgrow2 hown hown3
      go_wp2
      go_ret
      exact ⟨rfl, hbel⟩
    · have HE := left_step hL hx
      have ho : bits .or .u8 (x % 256) 128 = x % 128 + 128 := by rw [← IntKind.wrap_u8']; exact or128 x
      have hx' : 128 ≤ x := by omega
      go_wp2_with (at_builtin; refine wpList_append_own _ rfl _ _ 99 rfl w'.heap.size 5 i0 (.int .u8 0) 1 1 Try.underlying99 hi hz0 hz1 hz2 rfl (by decide) _ _ _ rfl (hown.alloc _) ⟨wr.heap.size, 0, none⟩ 1 1 [.int .u8 (x % 128 + 128)] rfl rfl ?d1 ?d2 ?d3 ?d4 ?d5 ?_)
      case d2 => first | rfl | (intro u hu; simp at hu; subst hu; rfl)
      case d3 => unfold maxLen; omega
      case d4 => omega
      case d5 => omega
      intro v2 w2 hown2 hgrow2 _
      have hown3 : w2.ownsRow w'.heap.size 5 1 v2 (l ++ [x % 128 + 128]).length ((l ++ [x % 128 + 128]).map (Value.int .u8)) := by simpa using hown2
      have hbel : Below w'.heap.size w' w2 := (hb.alloc hsz _).grown hgrow2 (by simp; omega) (fun k hk => by
        rcases hown.2 with ⟨rfl, _⟩ | ⟨g, cap, cur, rfl, hg, _⟩
        · cases hk
        · cases hk; exact hg)
      clear hown2 hgrow2 hown
      go_wp2
      go_roundw
      case rel => exact ⟨_, _, rfl, HE, hown3, hbel⟩
      case measure => simp [intOf]; omega
end Go.Proofs.Yticpaemmdfmbfaa
/- num.Take, and the law's num1 over it: what each answers, for every string. -/
namespace Go.Proofs.Yticpaemmdfmbfaa
open Go.RowKit
set_option linter.unusedVariables false
set_option maxRecDepth 100000

theorem ret3 {a b c a' b' c' : Int} {t : Int × Int × Int} (h : t = (a', b', c')) (h1 : a = a') (h2 : b = b') (h3 : c = c') :
    Ending.returned (.tuple #[.int .i64 a, .int .i64 b, .int .i64 c]) = .returned (.tuple #[.int .i64 t.1, .int .i64 t.2.1, .int .i64 t.2.2]) := by rw [h, h1, h2, h3]

set_option maxHeartbeats 400000 in
set_option maxRecDepth 100000 in
theorem take_any (s : ByteArray) (w : World) (hs : s.size ≤ maxLen) :
    Calls Try.prog 100 #[.string s] w fun e w' => e = .returned (.tuple #[.int .i64 (takeOf s).1, .int .i64 (takeOf s).2.1, .int .i64 (takeOf s).2.2]) ∧ w' = w := by
  unfold maxLen at hs
  go_enter Try.func100, Try.ntmps100
  go_wp2
  go_loop [5, 10] (fun u i => ∃ (k : Nat) (x : Int), k ≤ s.size ∧ k ≤ 9 ∧ i = .int .i64 k ∧ u = .int .u64 x ∧ 0 ≤ x ∧ Hid (x < 2 ^ (7 * k)) ∧ Hid (takeOf s = takeL (s.data.toList.drop k) k x)) (fun _ i => s.size - (intOf i).toNat)
  case atStart => exact ⟨0, 0, by omega, by omega, rfl, rfl, by omega, by unfold Hid; decide, rfl⟩
  case round =>
    obtain ⟨k, x, hk, hk9, rfl, rfl, hx0, HX, HT⟩ := hrel
    by_cases hlt : k < s.size
    · have hc1 : s[k].toNat < 256 := s[k].toNat_lt
      have hd := drop_byte s k hlt
      by_cases h9 : k = 9 ∧ 1 < s[k].toNat
      · obtain ⟨h9, hb⟩ := h9
        have HE : Hid (takeOf s = (0, 0, 7)) := by rw [HT.out, hd]; exact takeL_nine _ _ _ _ h9 hb
        have h9' : 9 ≤ k := by omega
        clear h9 hd HT HX
        go_wp2
        go_ret3
        exact ⟨ret3 HE.out rfl rfl rfl, rfl⟩
      · obtain ⟨ho, hl0, hl1, hl2⟩ := or_step k x s[k].toNat hx0 HX.out (by omega) (by omega) (by omega)
        by_cases hb : 128 ≤ s[k].toNat
        · have HE : Hid (takeOf s = takeL (s.data.toList.drop (k + 1)) (k + 1) (x + (s[k].toNat : Int) % 128 * 2 ^ (7 * k))) := by rw [HT.out, hd]; exact takeL_more _ _ _ _ (by omega) hb
          have HX2 : Hid (x + (s[k].toNat : Int) % 128 * 2 ^ (7 * k) < 2 ^ (7 * (k + 1))) := hl2 (by omega)
          have h8 : k ≤ 8 := by omega
          have HO : Hid (_ = _) := ho
          clear ho hd HT HX hl2 hl1 h9
          go_wp2
          go_round
          case rel => exact ⟨k + 1, _, by omega, by omega, by go_num, by rw [HO.out], hl0, HX2, HE⟩
          case measure => simp [intOf]; omega
        · have hb' : s[k].toNat < 128 := by omega
          by_cases hz : s[k].toNat = 0 ∧ 0 < k
          · obtain ⟨hz, hk0⟩ := hz
            have HE : Hid (takeOf s = (0, 0, 7)) := by rw [HT.out, hd]; exact takeL_zero _ _ _ _ hk0 hz
            have hz' : s[k].toNat ≤ 0 := by omega
            have hk0' : (0 : Int) < k := by omega
            clear ho hd HT HX hl2 hl1 h9 hz hb
            go_wp2
            all_goals
              go_ret3
              exact ⟨ret3 HE.out rfl rfl rfl, rfl⟩
          · have HE : Hid (takeOf s = (zag (x + (s[k].toNat : Int) % 128 * 2 ^ (7 * k)), (k : Int) + 1, 0)) := by rw [HT.out, hd]; exact takeL_end _ _ _ _ (by omega) hb' (by omega)
            have HO : Hid (_ = _) := ho
            clear ho hd HT HX hl2 hb
            by_cases h9e : k = 9
            · have hq : 9 ≤ k := by omega
              have hc : (s[k].toNat : Int) ≤ 1 := by omega
              have hz0 : ((s[k].toNat : Int) == 0) = false := by simp; omega
              have HO9 : Hid (bits .or .u64 x (IntKind.u64.wrap (IntKind.u64.wrap (bits .andNot .u8 (s[k].toNat : Int) 128) * 9223372036854775808)) = x + (s[k].toNat : Int) % 128 * 2 ^ (7 * k)) := by
                unfold Hid
                rw [show (9223372036854775808 : Int) = 2 ^ (7 * k) by rw [h9e]; rfl]
                exact HO.out
              clear h9 hz h9e HO
              go_wp2_with (go_at_call 111; rw [HO9.out]; refine (turnBack_any _ _ hl0 hl1).mono ?_; rintro e w' ⟨rfl, rfl⟩)
              go_ret3
              exact ⟨ret3 HE.out rfl (by omega) rfl, rfl⟩
            · have hq : ((k : Int) == 9) = false := by simp; omega
              by_cases hz1 : s[k].toNat = 0
              · have hz0 : ((s[k].toNat : Int) == 0) = true := by simp; omega
                have hk0 : (k : Int) ≤ 0 := by omega
                clear h9 hz h9e hz1
                go_wp2_with (go_at_call 111; rw [HO.out]; refine (turnBack_any _ _ hl0 hl1).mono ?_; rintro e w' ⟨rfl, rfl⟩)
                go_ret3
                exact ⟨ret3 HE.out rfl rfl rfl, rfl⟩
              · have hz0 : ((s[k].toNat : Int) == 0) = false := by simp; omega
                clear h9 hz h9e hz1
                go_wp2_with (go_at_call 111; rw [HO.out]; refine (turnBack_any _ _ hl0 hl1).mono ?_; rintro e w' ⟨rfl, rfl⟩)
                go_ret3
                exact ⟨ret3 HE.out rfl rfl rfl, rfl⟩
    · have HE : Hid (takeOf s = (0, 0, 6)) := by rw [HT.out, drop_end s k (by omega)]; exact takeL_nil _ _
      clear HT HX
      go_wp2
      go_ret3
      exact ⟨ret3 HE.out rfl rfl rfl, rfl⟩
end Go.Proofs.Yticpaemmdfmbfaa
