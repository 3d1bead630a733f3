/- Texts laid together: Bytes, Take. -/
import Derived.Test.YtejgcflcckjlpaaDoorRows
import Derived.Test.YtejgcflcckjlpaaDoorOC3
import Derived.WalkKit
import Derived.WalkSpells
import Derived.Test.YtejgcflcckjlpaaDoorOC14
/- num.turn, num.turnBack, num.Bytes: what each answers, for every number. -/
namespace Go.Proofs.YtejgcflcckjlpaaDoor
open Go.RowKit
set_option linter.unusedVariables false
set_option maxRecDepth 100000

theorem turn_any (n : Int) (w : World) (h1 : -9223372036854775808 ≤ n) (h2 : n ≤ 9223372036854775807) :
    Calls Tryd.prog 39 #[.int .i64 n] w fun e w' => e = .returned (.int .u64 (zig n)) ∧ w' = w := by
  by_cases h0 : n < 0
  · have hz : 18446744073709551615 - IntKind.u64.wrap (IntKind.u64.wrap n * 2) = zig n := by rw [IntKind.wrap_u64, IntKind.wrap_u64, zig, if_pos h0]; omega
    have hx := not_u64 (IntKind.u64.wrap (IntKind.u64.wrap n * 2)) (by rw [IntKind.wrap_u64]; omega) (by rw [IntKind.wrap_u64]; omega)
    have H : Hid (bits .xor .u64 IntKind.u64.max (IntKind.u64.wrap (IntKind.u64.wrap n * 2)) = zig n) := hx.trans hz
    clear hz hx
    go_enter Tryd.func39, Tryd.ntmps39
    go_wp2
    go_ret
    exact ⟨ret_int H.out, rfl⟩
  · have H : Hid (n * 2 = zig n) := by unfold Hid zig; rw [if_neg h0]; omega
    have h0' : 0 ≤ n := by omega
    clear h0
    go_enter Tryd.func39, Tryd.ntmps39
    go_wp2
    go_ret
    exact ⟨ret_int H.out, rfl⟩

theorem Tryd.info5 : (Tryd.prog.info? 5).map (fun i => (i.zero, i.size, i.bytes)) = some (some (.int .u8 0), 1, 1) := by kernel_rfl

theorem cell_of_row {w : World} {g : Nat} {cur : Array Value} {e : TypeId} {i : Nat} {v : Value} (hh : w.heap[g]? = some (.cells cur e (0, 0))) (hlt : i < cur.size) (he : cur[i]? = some v) : w.cell? ⟨g, i, none⟩ = some v := by
  simp [World.cell?, hh, he]

/-- A row of bytes that is owned, as a string. -/
theorem conv_own {w : World} {base : Nat} {v : Value} {xs : List Int} (h : w.ownsRow base 5 1 v xs.length (xs.map (Value.int .u8))) (hne : 0 < xs.length) :
    (convert 68 9 v).run Tryd.prog w = .ok (.string (strOfNums xs)) w := by
  obtain ⟨_, ⟨_, h0⟩ | ⟨g, cap, cur, rfl, hg, hh, hn, hc, hs, ht⟩⟩ := h
  · omega
  · refine run_convert_bytes_arg w 68 5 Tryd.underlying68 Tryd.underlying5 g 0 xs.length cap xs rfl ?_ 9 Tryd.underlying9
    intro i hi
    have e : cur.toList[i]? = some (.int .u8 (xs.getD i 0)) := by
      have : (cur.toList.take (xs.length * 1))[i]? = some (.int .u8 (xs.getD i 0)) := by rw [ht]; simp [hi, List.getD]
      rw [List.getElem?_take] at this
      split at this
      · exact this
      · exact absurd this (by simp)
    have hlt : i < cur.size := by rw [hs]; omega
    rw [Nat.zero_add]
    exact cell_of_row hh hlt (by simpa using e)

set_option maxHeartbeats 400000 in
theorem bytes_any (n : Int) (w : World) (h1 : -9223372036854775808 ≤ n) (h2 : n ≤ 9223372036854775807) :
    Calls Tryd.prog 29 #[.int .i64 n] w fun e w' => e = .returned (.string (bytesOf n)) ∧ Below w.heap.size w w' := by
  obtain ⟨i0, hi, hz0, hz1, hz2⟩ := info_parts Tryd.info5
  obtain ⟨z0, z1⟩ := zig_bd n h1 h2
  go_enter Tryd.func29, Tryd.ntmps29
  go_wp2_with (go_at_call 39; refine (turn_any n _ h1 h2).mono ?_; rintro e w' ⟨rfl, rfl⟩)
  go_loopw [3, 4] (fun v u wr => ∃ (l : List Int) (x : Int), u = .int .u64 x ∧ Left (zig n) x l ∧ wr.ownsRow w'.heap.size 5 1 v l.length (l.map (Value.int .u8)) ∧ Below w'.heap.size w' wr)
    (fun _ u _ => (intOf u).toNat)
  case atStart => exact ⟨[], _, rfl, left_start _ z0 z1, World.ownsRow_nil _ _ _ _, Below.refl _ _⟩
  case round =>
    obtain ⟨l, x, rfl, hL, hown, hb⟩ := hrel
    have hx0 := left_pos hL
    have hlen := left_len hL
    have hsz := hb.size
    by_cases hx : x < 128
    · have HE : Hid (l ++ [x] = grp 10 (zig n)) := left_end hL hx
      go_wp2_with (at_builtin; refine wpList_append_own _ rfl _ _ 68 rfl w'.heap.size 5 i0 (.int .u8 0) 1 1 Tryd.underlying68 hi hz0 hz1 hz2 rfl (by decide) _ _ _ rfl (hown.alloc _) ⟨wr.heap.size, 0, none⟩ 1 1 [.int .u8 x] rfl rfl ?c1 ?c2 ?c3 ?c4 ?c5 ?_)
      case c1 =>
        intro j u hj
        match j, hj with
        | 0, hj => simp at hj; subst hj; simp [Addr.add]
      case c2 => first | rfl | (intro u hu; simp at hu; subst hu; rfl)
      case c3 => unfold maxLen; omega
      case c4 => omega
      case c5 => simp; omega
      intro v2 w2 hown2 hgrow2 _
      have hown3 : w2.ownsRow w'.heap.size 5 1 v2 (grp 10 (zig n)).length ((grp 10 (zig n)).map (Value.int .u8)) := by rw [← HE.out]; simpa using hown2
      have hcv := conv_own hown3 (by rw [← HE.out]; simp)
      have hbel : Below w'.heap.size w' w2 := (hb.alloc hsz _).grown hgrow2 (by simp; omega) (fun k hk => by
        rcases hown.2 with ⟨rfl, _⟩ | ⟨g, cap, cur, rfl, hg, _⟩
        · cases hk
        · cases hk; exact hg)
      clear hown2 hgrow2 hown hown3
      go_wp2
      go_ret
      exact ⟨rfl, hbel⟩
    · have HE := left_step hL hx
      have ho : bits .or .u8 (x % 256) 128 = x % 128 + 128 := by rw [← IntKind.wrap_u8']; exact or128 x
      have hx' : 128 ≤ x := by omega
      go_wp2_with (at_builtin; refine wpList_append_own _ rfl _ _ 68 rfl w'.heap.size 5 i0 (.int .u8 0) 1 1 Tryd.underlying68 hi hz0 hz1 hz2 rfl (by decide) _ _ _ rfl (hown.alloc _) ⟨wr.heap.size, 0, none⟩ 1 1 [.int .u8 (x % 128 + 128)] rfl rfl ?d1 ?d2 ?d3 ?d4 ?d5 ?_)
      case d2 => first | rfl | (intro u hu; simp at hu; subst hu; rfl)
      case d3 => unfold maxLen; omega
      case d4 => omega
      case d5 => omega
      intro v2 w2 hown2 hgrow2 _
      have hown3 : w2.ownsRow w'.heap.size 5 1 v2 (l ++ [x % 128 + 128]).length ((l ++ [x % 128 + 128]).map (Value.int .u8)) := by simpa using hown2
      have hbel : Below w'.heap.size w' w2 := (hb.alloc hsz _).grown hgrow2 (by simp; omega) (fun k hk => by
        rcases hown.2 with ⟨rfl, _⟩ | ⟨g, cap, cur, rfl, hg, _⟩
        · cases hk
        · cases hk; exact hg)
      clear hown2 hgrow2 hown
      go_wp2
      go_roundw
      case rel => exact ⟨_, _, rfl, HE, hown3, hbel⟩
      case measure => simp [intOf]; omega
end Go.Proofs.YtejgcflcckjlpaaDoor
/- num.Take, and the law's num1 over it: what each answers, for every string. -/
namespace Go.Proofs.YtejgcflcckjlpaaDoor
open Go.RowKit
set_option linter.unusedVariables false
set_option maxRecDepth 100000

theorem ret3 {a b c a' b' c' : Int} {t : Int × Int × Int} (h : t = (a', b', c')) (h1 : a = a') (h2 : b = b') (h3 : c = c') :
    Ending.returned (.tuple #[.int .i64 a, .int .i64 b, .int .i64 c]) = .returned (.tuple #[.int .i64 t.1, .int .i64 t.2.1, .int .i64 t.2.2]) := by rw [h, h1, h2, h3]

end Go.Proofs.YtejgcflcckjlpaaDoor
