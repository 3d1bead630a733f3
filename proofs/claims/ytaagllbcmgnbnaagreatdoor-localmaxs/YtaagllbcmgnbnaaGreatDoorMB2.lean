/- Texts laid together: Bytes, GBytes, GJoin, NRow, GRow, WKeyF, Take. -/
import Derived.Test.YtaagllbcmgnbnaaGreatDoorRows
import Derived.Test.YtaagllbcmgnbnaaGreatDoorMB1
import Derived.WalkKit
import Derived.WalkSpells
import Derived.Lib.SlicesCompact
import Derived.ProofKit
import Derived.Below
import Derived.OwnWalk
import Derived.Maps.AppendAt
import Derived.Deep.QuietTactic
import Derived.BigQuiet
import Derived.WalkSmall
import Derived.Deep.RegionHeld3
/- num.turn, num.turnBack, num.Bytes: what each answers, for every number. -/
namespace Go.Proofs.YtaagllbcmgnbnaaGreatDoor
open Go.RowKit
set_option linter.unusedVariables false
set_option maxRecDepth 100000

theorem turn_any (n : Int) (w : World) (h1 : -9223372036854775808 ≤ n) (h2 : n ≤ 9223372036854775807) :
    Calls Tryz.prog 157 #[.int .i64 n] w fun e w' => e = .returned (.int .u64 (zig n)) ∧ w' = w := by
  by_cases h0 : n < 0
  · have hz : 18446744073709551615 - IntKind.u64.wrap (IntKind.u64.wrap n * 2) = zig n := by rw [IntKind.wrap_u64, IntKind.wrap_u64, zig, if_pos h0]; omega
    have hx := not_u64 (IntKind.u64.wrap (IntKind.u64.wrap n * 2)) (by rw [IntKind.wrap_u64]; omega) (by rw [IntKind.wrap_u64]; omega)
    have H : Hid (bits .xor .u64 IntKind.u64.max (IntKind.u64.wrap (IntKind.u64.wrap n * 2)) = zig n) := hx.trans hz
    clear hz hx
    go_enter Tryz.func157, Tryz.ntmps157
    go_wp2
    go_ret
    exact ⟨ret_int H.out, rfl⟩
  · have H : Hid (n * 2 = zig n) := by unfold Hid zig; rw [if_neg h0]; omega
    have h0' : 0 ≤ n := by omega
    clear h0
    go_enter Tryz.func157, Tryz.ntmps157
    go_wp2
    go_ret
    exact ⟨ret_int H.out, rfl⟩

theorem turnBack_any (u : Int) (w : World) (h0 : 0 ≤ u) (h1 : u ≤ 18446744073709551615) :
    Calls Tryz.prog 218 #[.int .u64 u] w fun e w' => e = .returned (.int .i64 (zag u)) ∧ w' = w := by
  by_cases h : u % 2 = 1
  · have ht : (bits .and .u64 u 1 == 1) = true := by rw [and1 u h0 h1, h]; rfl
    have H : Hid (bits .xor .i64 (-1) (u / 2) = zag u) := by unfold Hid zag; rw [if_pos h, not_i64 _ (by omega) (by omega)]
    clear h
    go_enter Tryz.func218, Tryz.ntmps218
    go_wp2
    go_ret
    exact ⟨ret_int H.out, rfl⟩
  · have ht : (bits .and .u64 u 1 == 1) = false := by rw [and1 u h0 h1]; simp; omega
    have H : Hid (u / 2 = zag u) := by unfold Hid zag; rw [if_neg h]
    clear h
    go_enter Tryz.func218, Tryz.ntmps218
    go_wp2
    go_ret
    exact ⟨ret_int H.out, rfl⟩

theorem Tryz.info5 : (Tryz.prog.info? 5).map (fun i => (i.zero, i.size, i.bytes)) = some (some (.int .u8 0), 1, 1) := by kernel_rfl

theorem cell_of_row {w : World} {g : Nat} {cur : Array Value} {e : TypeId} {i : Nat} {v : Value} (hh : w.heap[g]? = some (.cells cur e (0, 0))) (hlt : i < cur.size) (he : cur[i]? = some v) : w.cell? ⟨g, i, none⟩ = some v := by
  simp [World.cell?, hh, he]

/-- A row of bytes that is owned, as a string. -/
theorem conv_own {w : World} {base : Nat} {v : Value} {xs : List Int} (h : w.ownsRow base 5 1 v xs.length (xs.map (Value.int .u8))) (hne : 0 < xs.length) :
    (convert 155 9 v).run Tryz.prog w = .ok (.string (strOfNums xs)) w := by
  obtain ⟨_, ⟨_, h0⟩ | ⟨g, cap, cur, rfl, hg, hh, hn, hc, hs, ht⟩⟩ := h
  · omega
  · refine run_convert_bytes_arg w 155 5 Tryz.underlying155 Tryz.underlying5 g 0 xs.length cap xs rfl ?_ 9 Tryz.underlying9
    intro i hi
    have e : cur.toList[i]? = some (.int .u8 (xs.getD i 0)) := by
      have : (cur.toList.take (xs.length * 1))[i]? = some (.int .u8 (xs.getD i 0)) := by rw [ht]; simp [hi, List.getD]
      rw [List.getElem?_take] at this
      split at this
      · exact this
      · exact absurd this (by simp)
    have hlt : i < cur.size := by rw [hs]; omega
    rw [Nat.zero_add]
    exact cell_of_row hh hlt (by simpa using e)

set_option maxHeartbeats 400000 in
theorem bytes_any (n : Int) (w : World) (h1 : -9223372036854775808 ≤ n) (h2 : n ≤ 9223372036854775807) :
    Calls Tryz.prog 122 #[.int .i64 n] w fun e w' => e = .returned (.string (bytesOf n)) ∧ Below w.heap.size w w' := by
  obtain ⟨i0, hi, hz0, hz1, hz2⟩ := info_parts Tryz.info5
  obtain ⟨z0, z1⟩ := zig_bd n h1 h2
  go_enter Tryz.func122, Tryz.ntmps122
  go_wp2_with (go_at_call 157; refine (turn_any n _ h1 h2).mono ?_; rintro e w' ⟨rfl, rfl⟩)
  go_loopw [3, 4] (fun v u wr => ∃ (l : List Int) (x : Int), u = .int .u64 x ∧ Left (zig n) x l ∧ wr.ownsRow w'.heap.size 5 1 v l.length (l.map (Value.int .u8)) ∧ Below w'.heap.size w' wr)
    (fun _ u _ => (intOf u).toNat)
  case atStart => exact ⟨[], _, rfl, left_start _ z0 z1, World.ownsRow_nil _ _ _ _, Below.refl _ _⟩
  case round =>
    obtain ⟨l, x, rfl, hL, hown, hb⟩ := hrel
    have hx0 := left_pos hL
    have hlen := left_len hL
    have hsz := hb.size
    by_cases hx : x < 128
    · have HE : Hid (l ++ [x] = grp 10 (zig n)) := left_end hL hx
      go_wp2_with (at_builtin; refine wpList_append_own _ rfl _ _ 155 rfl w'.heap.size 5 i0 (.int .u8 0) 1 1 Tryz.underlying155 hi hz0 hz1 hz2 rfl (by decide) _ _ _ rfl (hown.alloc _) ⟨wr.heap.size, 0, none⟩ 1 1 [.int .u8 x] rfl rfl ?c1 ?c2 ?c3 ?c4 ?c5 ?_)
      case c1 =>
        intro j u hj
        match j, hj with
        | 0, hj => simp at hj; subst hj; simp [Addr.add]
      case c2 => first | rfl | (intro u hu; simp at hu; subst hu; rfl)
      case c3 => unfold maxLen; omega
      case c4 => omega
      case c5 => simp; omega
      intro v2 w2 hown2 hgrow2 _
      have hown3 : w2.ownsRow w'.heap.size 5 1 v2 (grp 10 (zig n)).length ((grp 10 (zig n)).map (Value.int .u8)) := by rw [← HE.out]; simpa using hown2
      have hcv := conv_own hown3 (by rw [← HE.out]; simp)
      have hbel : Below w'.heap.size w' w2 := (hb.alloc hsz _).grown hgrow2 (by simp; omega) (fun k hk => by
        rcases hown.2 with ⟨rfl, _⟩ | ⟨g, cap, cur, rfl, hg, _⟩
        · cases hk
        · cases hk; exact hg)
      clear hown2 hgrow2 hown hown3
      go_wp2
      go_ret
      exact ⟨rfl, hbel⟩
    · have HE := left_step hL hx
      have ho : bits .or .u8 (x % 256) 128 = x % 128 + 128 := by rw [← IntKind.wrap_u8']; exact or128 x
      have hx' : 128 ≤ x := by omega
      go_wp2_with (at_builtin; refine wpList_append_own _ rfl _ _ 155 rfl w'.heap.size 5 i0 (.int .u8 0) 1 1 Tryz.underlying155 hi hz0 hz1 hz2 rfl (by decide) _ _ _ rfl (hown.alloc _) ⟨wr.heap.size, 0, none⟩ 1 1 [.int .u8 (x % 128 + 128)] rfl rfl ?d1 ?d2 ?d3 ?d4 ?d5 ?_)
      case d2 => first | rfl | (intro u hu; simp at hu; subst hu; rfl)
      case d3 => unfold maxLen; omega
      case d4 => omega
      case d5 => omega
      intro v2 w2 hown2 hgrow2 _
      have hown3 : w2.ownsRow w'.heap.size 5 1 v2 (l ++ [x % 128 + 128]).length ((l ++ [x % 128 + 128]).map (Value.int .u8)) := by simpa using hown2
      have hbel : Below w'.heap.size w' w2 := (hb.alloc hsz _).grown hgrow2 (by simp; omega) (fun k hk => by
        rcases hown.2 with ⟨rfl, _⟩ | ⟨g, cap, cur, rfl, hg, _⟩
        · cases hk
        · cases hk; exact hg)
      clear hown2 hgrow2 hown
      go_wp2
      go_roundw
      case rel => exact ⟨_, _, rfl, HE, hown3, hbel⟩
      case measure => simp [intOf]; omega
end Go.Proofs.YtaagllbcmgnbnaaGreatDoor
/- The bytes of cells, and that they undo each other. No program in this text. -/
namespace Go.Proofs.YtaagllbcmgnbnaaGreatDoor
open Go.RowKit
set_option linter.unusedVariables false
set_option maxRecDepth 100000

def Num64 (n : Int) : Prop := -9223372036854775808 ≤ n ∧ n ≤ 9223372036854775807
def catB : List Int → ByteArray
  | [] => ⟨#[]⟩
  | x :: l => bytesOf x ++ catB l
/-- The bytes of a cell. -/
def cBytes (agg : Int) (c : Cl) : ByteArray := if agg = 6 then bytesOf (c.2.length : Int) ++ catB c.2 else bytesOf c.1
/-- What stands from a place on. -/
def cFrom (s : ByteArray) (n : Nat) : ByteArray := s.extract n s.size
/-- So many numbers, from a place on: they, where they end, the error. -/
def rdN : Nat → ByteArray → Nat → List Int → List Int × Int × Int
  | 0, _, n, acc => (acc, (n : Int), 0)
  | i + 1, s, n, acc =>
    if (takeOf (cFrom s n)).2.2 ≠ 0 then ([], 0, (takeOf (cFrom s n)).2.2)
    else rdN i s (n + (takeOf (cFrom s n)).2.1.toNat) (acc ++ [(takeOf (cFrom s n)).1])
/-- May a cell be? -/
def mayC (agg : Int) (bound : Nat) (c : Cl) : Bool :=
  if agg = 6 then decide (c.1 = 0) && decide (Rise c.2) && decide (c.2.length ≤ bound) else decide (c.2 = []) && decide (agg = 2 → 0 ≤ c.1 ∧ c.1 ≤ 4611686018427387904)
/-- Which cell bytes begin with: it, how many bytes, the error. -/
def cTake (agg : Int) (bound : Nat) (s : ByteArray) : Cl × Int × Int :=
  if (takeOf s).2.2 ≠ 0 then ((0, []), 0, (takeOf s).2.2)
  else if agg = 6 then
    (if (takeOf s).1 < 0 ∨ (bound : Int) < (takeOf s).1 then ((0, []), 0, 7)
     else if (rdN (takeOf s).1.toNat s (takeOf s).2.1.toNat []).2.2 ≠ 0 then ((0, []), 0, (rdN (takeOf s).1.toNat s (takeOf s).2.1.toNat []).2.2)
     else if mayC agg bound (0, (rdN (takeOf s).1.toNat s (takeOf s).2.1.toNat []).1) = true then ((0, (rdN (takeOf s).1.toNat s (takeOf s).2.1.toNat []).1), (rdN (takeOf s).1.toNat s (takeOf s).2.1.toNat []).2.1, 0)
     else ((0, []), 0, 7))
  else if mayC agg bound ((takeOf s).1, []) = true then (((takeOf s).1, []), (takeOf s).2.1, 0) else ((0, []), 0, 7)
end Go.Proofs.YtaagllbcmgnbnaaGreatDoor
/- Two rising lists put together, by sorting and by merging. No program in this text. -/
namespace Go.Proofs.YtaagllbcmgnbnaaGreatDoor
open Go.RowKit Go.Lib
set_option linter.unusedVariables false
set_option maxRecDepth 100000

theorem get_bang {d : Array Int} {j : Nat} (h : j < d.size) : d[j]! = d[j] := getElem!_pos d j h
/-- Of a sorted row, each once: rising, and just what lies there. -/
theorem compact_rise (d : Array Int) (hs : ∀ i j, i < j → j < d.size → d[i]! ≤ d[j]!) : ∀ m, m ≤ d.size → Rise (compactUpTo d m) ∧ ∀ z, z ∈ compactUpTo d m ↔ ∃ j, j < m ∧ d[j]! = z
  | 0, _ => ⟨by simp [compactUpTo, Rise], fun z => by simp [compactUpTo]⟩
  | m + 1, hm => by
    obtain ⟨h1, h2⟩ := compact_rise d hs m (by omega)
    rw [compactUpTo_succ]
    by_cases hk : keeps d m = true
    · rw [if_pos hk]
      have hk' : m = 0 ∨ d[m]! ≠ d[m - 1]! := by simpa [keeps] using hk
      refine ⟨rise_snoc h1 ?_, ?_⟩
      · intro y hy
        obtain ⟨j, hj, rfl⟩ := (h2 y).1 hy
        rcases hk' with rfl | hk'
        · omega
        · have e1 := hs (m - 1) m (by omega) (by omega)
          by_cases e : j = m - 1
          · subst e; omega
          · have e2 := hs j (m - 1) (by omega) (by omega); omega
      · intro z
        rw [List.mem_append, h2]
        constructor
        · rintro (⟨j, hj, e⟩ | h)
          · exact ⟨j, by omega, e⟩
          · simp at h; exact ⟨m, by omega, h.symm⟩
        · rintro ⟨j, hj, e⟩
          by_cases e1 : j = m
          · subst e1; right; simp [← e]
          · left; exact ⟨j, by omega, e⟩
    · rw [if_neg hk, List.append_nil]
      have hk' : ¬ (m = 0 ∨ d[m]! ≠ d[m - 1]!) := by simpa [keeps] using hk
      refine ⟨h1, fun z => ?_⟩
      rw [h2]
      constructor
      · rintro ⟨j, hj, e⟩; exact ⟨j, by omega, e⟩
      · rintro ⟨j, hj, e⟩
        by_cases e1 : j = m
        · refine ⟨m - 1, by omega, ?_⟩
          rw [← e, e1]
          exact (Classical.not_not.1 fun h => hk' (.inr h)).symm
        · exact ⟨j, by omega, e⟩
abbrev leI : Int → Int → Bool := fun x y => decide (x ≤ y)
theorem sorted_get (l : List Int) : ∀ i j, i < j → j < (l.mergeSort leI).toArray.size → (l.mergeSort leI).toArray[i]! ≤ (l.mergeSort leI).toArray[j]! := by
  have hp := List.pairwise_mergeSort (le := leI) (fun a b c h1 h2 => by simp only [leI, decide_eq_true_eq] at h1 h2 ⊢; omega) (fun a b => by simp only [leI, Bool.or_eq_true, decide_eq_true_eq]; omega) l
  intro i j hij hj
  have hj' : j < (l.mergeSort leI).length := by simpa using hj
  have := List.pairwise_iff_getElem.1 hp i j (by omega) hj' hij
  rw [get_bang hj, get_bang (by omega)]
  simpa [leI] using this
/-- Sorted, and each once: all that is in both. -/
theorem sort_compact (a b : List Int) (hb : Rise b) : compactUpTo ((a ++ b).mergeSort leI).toArray ((a ++ b).mergeSort leI).toArray.size = uni a b := by
  obtain ⟨h1, h2⟩ := compact_rise _ (sorted_get (a ++ b)) _ (Nat.le_refl _)
  refine rise_ext h1 (rise_uni a hb) fun z => ?_
  rw [h2, mem_uni, ← List.mem_append, ← (List.mergeSort_perm (a ++ b) leI).mem_iff]
  constructor
  · rintro ⟨j, hj, e⟩
    rw [get_bang hj] at e
    rw [← e]
    simp
  · intro h
    obtain ⟨j, hj, e⟩ := List.getElem_of_mem h
    exact ⟨j, by simpa using hj, by rw [get_bang (by simpa using hj)]; simpa using e⟩
/-- So far of one, so far of the other: both are in it. -/
structure MJ (a b : List Int) (i k : Nat) (l : List Int) : Prop where
  ri : Rise l
  mem : ∀ z, z ∈ l ↔ z ∈ a.take i ∨ z ∈ b.take k
  la : ∀ z ∈ l, ∀ y ∈ a.drop i, z < y
  lb : ∀ z ∈ l, ∀ y ∈ b.drop k, z < y
  len : l.length ≤ i + k
theorem MJ.start (a b : List Int) : MJ a b 0 0 [] := ⟨Rise.nil, fun z => by simp, fun z hz => by simp at hz, fun z hz => by simp at hz, by simp⟩
theorem MJ.done {a b l : List Int} {i k : Nat} (h : MJ a b i k l) (hi : a.length ≤ i) (hk : b.length ≤ k) (hb : Rise b) : l = uni a b :=
  rise_ext h.ri (rise_uni a hb) fun z => by rw [h.mem, mem_uni, List.take_of_length_le hi, List.take_of_length_le hk]
theorem take_snoc {a : List Int} {i : Nat} {x : Int} (hx : a[i]? = some x) : a.take (i + 1) = a.take i ++ [x] := by rw [List.take_add_one, hx]; rfl
theorem drop_head {a : List Int} {i : Nat} {x : Int} (hx : a[i]? = some x) : a.drop i = x :: a.drop (i + 1) := by
  obtain ⟨h, e⟩ := List.getElem?_eq_some_iff.1 hx
  rw [List.drop_eq_getElem_cons h, e]
theorem rise_drop {a : List Int} (h : Rise a) (i : Nat) : Rise (a.drop i) := List.Pairwise.sublist (List.drop_sublist i a) h
theorem rise_behind {a : List Int} (h : Rise a) {i : Nat} {x : Int} (hx : a[i]? = some x) : ∀ y ∈ a.drop (i + 1), x < y := by
  have := rise_drop h i
  rw [drop_head hx, rise_cons] at this
  exact this.1
theorem MJ.left {a b l : List Int} {i k : Nat} {x : Int} (h : MJ a b i k l) (ha : Rise a) (hb : Rise b) (hx : a[i]? = some x) (hk : b.length ≤ k ∨ ∃ y, b[k]? = some y ∧ x < y) : MJ a b (i + 1) k (l ++ [x]) := by
  have hin : x ∈ a.drop i := by rw [drop_head hx]; simp
  refine ⟨rise_snoc h.ri fun y hy => h.la y hy x hin, fun z => ?_, ?_, ?_, by have := h.len; simp; omega⟩
  · rw [take_snoc hx, List.mem_append, List.mem_append, h.mem]
    constructor
    · rintro ((h1 | h1) | h1)
      · exact .inl (.inl h1)
      · exact .inr h1
      · exact .inl (.inr h1)
    · rintro ((h1 | h1) | h1)
      · exact .inl (.inl h1)
      · exact .inr h1
      · exact .inl (.inr h1)
  · intro z hz y hy
    rw [List.mem_append] at hz
    rcases hz with hz | hz
    · exact h.la z hz y (by rw [drop_head hx]; simp [hy])
    · simp at hz; subst hz; exact rise_behind ha hx y hy
  · intro z hz y hy
    rw [List.mem_append] at hz
    rcases hz with hz | hz
    · exact h.lb z hz y hy
    · simp at hz; subst hz
      rcases hk with hk | ⟨v, hv, hlt⟩
      · rw [List.drop_of_length_le hk] at hy; simp at hy
      · rw [drop_head hv, List.mem_cons] at hy
        rcases hy with rfl | hy
        · exact hlt
        · have := rise_behind hb hv y hy; omega
theorem MJ.swap {a b l : List Int} {i k : Nat} (h : MJ a b i k l) : MJ b a k i l := ⟨h.ri, fun z => by rw [h.mem]; exact Or.comm, h.lb, h.la, by have := h.len; omega⟩
theorem MJ.right {a b l : List Int} {i k : Nat} {x : Int} (h : MJ a b i k l) (ha : Rise a) (hb : Rise b) (hx : b[k]? = some x) (hk : a.length ≤ i ∨ ∃ y, a[i]? = some y ∧ x < y) : MJ a b i (k + 1) (l ++ [x]) := (h.swap.left hb ha hx hk).swap
theorem MJ.both {a b l : List Int} {i k : Nat} {x : Int} (h : MJ a b i k l) (ha : Rise a) (hb : Rise b) (hx : a[i]? = some x) (hy : b[k]? = some x) : MJ a b (i + 1) (k + 1) (l ++ [x]) := by
  have hin : x ∈ a.drop i := by rw [drop_head hx]; simp
  refine ⟨rise_snoc h.ri fun y hy => h.la y hy x hin, fun z => ?_, ?_, ?_, by have := h.len; simp; omega⟩
  · rw [take_snoc hx, take_snoc hy, List.mem_append, List.mem_append, List.mem_append, h.mem]
    constructor
    · rintro ((h1 | h1) | h1)
      · exact .inl (.inl h1)
      · exact .inr (.inl h1)
      · exact .inl (.inr h1)
    · rintro ((h1 | h1) | (h1 | h1))
      · exact .inl (.inl h1)
      · exact .inr h1
      · exact .inl (.inr h1)
      · exact .inr h1
  · intro z hz y hy'
    rw [List.mem_append] at hz
    rcases hz with hz | hz
    · exact h.la z hz y (by rw [drop_head hx]; simp [hy'])
    · simp at hz; subst hz; exact rise_behind ha hx y hy'
  · intro z hz y hy'
    rw [List.mem_append] at hz
    rcases hz with hz | hz
    · exact h.lb z hz y (by rw [drop_head hy]; simp [hy'])
    · simp at hz; subst hz; exact rise_behind hb hy y hy'
/-- Neighbours rise: all rise. -/
theorem rise_of_next : ∀ (l : List Int), (∀ i x y, l[i]? = some x → l[i + 1]? = some y → x < y) → Rise l
  | [], _ => Rise.nil
  | [x], _ => by simp [Rise]
  | x :: y :: l, h => by
    have ih := rise_of_next (y :: l) fun i a b h1 h2 => h (i + 1) a b (by simpa using h1) (by simpa using h2)
    rw [rise_cons]
    refine ⟨fun z hz => ?_, ih⟩
    have h0 := h 0 x y rfl rfl
    rw [List.mem_cons] at hz
    rcases hz with rfl | hz
    · exact h0
    · rw [rise_cons] at ih
      have := ih.1 z hz
      omega
theorem rise_next {l : List Int} (h : Rise l) {i : Nat} {x y : Int} (hx : l[i]? = some x) (hy : l[i + 1]? = some y) : x < y :=
  rise_behind h hx y (by rw [drop_head hy]; simp)
end Go.Proofs.YtaagllbcmgnbnaaGreatDoor
/- A slice of numbers: what its cells hold. -/
namespace Go.Proofs.YtaagllbcmgnbnaaGreatDoor
open Go.RowKit
set_option linter.unusedVariables false
set_option maxRecDepth 100000
def NumsAt (w : World) (b off : Nat) (l : List Int) : Prop := ∀ i x, l[i]? = some x → w.cell? ⟨b, off + i, none⟩ = some (.int .i64 x)
def NS (w : World) (v : Value) (l : List Int) : Prop :=
  ∃ a cap, v = .slice a l.length cap ∧ (l = [] ∨ ∃ b off, a = some ⟨b, off, none⟩ ∧ b < w.heap.size ∧ NumsAt w b off l)
theorem NumsAt.below {w w' : World} {b off B : Nat} {l : List Int} (h : NumsAt w b off l) (hb : Below B w w') (hlt : b < B) : NumsAt w' b off l := fun i x hx =>
  (hb.cell (p := ⟨b, off + i, none⟩) hlt).trans (h i x hx)
theorem NS.below {w w' : World} {v : Value} {l : List Int} (h : NS w v l) (hb : Below w.heap.size w w') : NS w' v l := by
  obtain ⟨a, cap, rfl, h⟩ := h
  refine ⟨a, cap, rfl, ?_⟩
  rcases h with h | ⟨b, off, rfl, hlt, h⟩
  · exact .inl h
  · exact .inr ⟨b, off, rfl, Nat.lt_of_lt_of_le hlt hb.size, h.below hb hlt⟩
abbrev OwnN (w : World) (base : Nat) (v : Value) (l : List Int) : Prop := w.ownsRow base 3 1 v l.length (l.map (Value.int .i64))
theorem NS.own {w : World} {base : Nat} {v : Value} {l : List Int} (h : OwnN w base v l) : NS w v l := by
  rcases h.2 with ⟨rfl, h0⟩ | ⟨g, cap, cur, rfl, _, hb, _, _, _, ht⟩
  · have : l = [] := List.length_eq_zero_iff.1 h0
    subst this
    exact ⟨none, 0, rfl, .inl rfl⟩
  · refine ⟨_, cap, rfl, .inr ⟨g, 0, rfl, (Array.getElem?_eq_some_iff.1 hb).1, ?_⟩⟩
    intro i x hx
    have hi : i < l.length := (List.getElem?_eq_some_iff.1 hx).1
    have h0 : (l.map (Value.int .i64))[i]? = some (.int .i64 x) := by simp [hx]
    rw [← ht, List.getElem?_take_of_lt (by omega)] at h0
    simp only [World.cell?, hb, Nat.zero_add]
    simpa using h0
theorem OwnN.below {w w' : World} {base : Nat} {v : Value} {l : List Int} (h : OwnN w base v l) (hb : Below w.heap.size w w') : OwnN w' base v l := by
  refine ⟨h.1, ?_⟩
  rcases h.2 with ⟨h1, h2⟩ | ⟨g, cap, cur, h1, h2, h3, h4⟩
  · exact .inl ⟨h1, h2⟩
  · exact .inr ⟨g, cap, cur, h1, h2, by rw [hb.block g (Array.getElem?_eq_some_iff.1 h3).1]; exact h3, h4⟩
theorem OwnN.snoc {w : World} {base n : Nat} {v : Value} {l : List Int} {x : Int} (h : w.ownsRow base 3 1 v (n + 1) (l.map (Value.int .i64) ++ [.int .i64 x])) (hn : n = l.length) : OwnN w base v (l ++ [x]) := by
  subst hn
  have : (l ++ [x]).map (Value.int .i64) = l.map (Value.int .i64) ++ [.int .i64 x] := by simp
  unfold OwnN
  rw [this, List.length_append]
  exact h
theorem OwnN.shape {w : World} {base : Nat} {v : Value} {l : List Int} (h : OwnN w base v l) : ∃ a cap, v = .slice a l.length cap := by
  obtain ⟨a, cap, h, _⟩ := NS.own h
  exact ⟨a, cap, h⟩
end Go.Proofs.YtaagllbcmgnbnaaGreatDoor
/- Cells in memory: a number, and a slice of numbers. -/
namespace Go.Proofs.YtaagllbcmgnbnaaGreatDoor
open Go.RowKit
set_option linter.unusedVariables false
set_option maxRecDepth 100000

theorem hidM {p : Prop} (h : p) : Hid p := h
theorem nxt {a b c : World} (h : Below a.heap.size a b) (k : Below b.heap.size b c) : Below a.heap.size a c := h.trans (k.mono h.size)
def Drawn (w wr : World) : Prop := ∃ q, wr = w.drewN q
theorem Drawn.refl (w : World) : Drawn w w := ⟨0, rfl⟩
theorem Drawn.step {w wr : World} (h : Drawn w wr) (q : Nat) : Drawn w (wr.drewN q) := by obtain ⟨n, rfl⟩ := h; exact ⟨n + q, by simp [World.drewN, Nat.add_assoc]⟩
theorem Drawn.cell {w wr : World} (h : Drawn w wr) (a : Addr) : wr.cell? a = w.cell? a := by obtain ⟨n, rfl⟩ := h; rfl
theorem Drawn.below {w wr : World} (h : Drawn w wr) (B : Nat) : Below B w wr := by obtain ⟨n, rfl⟩ := h; exact ⟨rfl, rfl, rfl, Nat.le_refl _, fun _ _ => rfl⟩
theorem getSome {α : Type} {l : List α} {i : Nat} (h : i < l.length) : ∃ x, l[i]? = some x := ⟨l[i], List.getElem?_eq_getElem h⟩
theorem Tryz.info2 : (Tryz.prog.info? 2).map (fun i => (i.zero, i.size, i.bytes)) = some (some (.int .i64 0), 1, 8) := by kernel_rfl
theorem own_row {w : World} {base n : Nat} {e : TypeId} {size : Nat} {v : Value} {xs : List Value} (h : w.ownsRow base e size v n xs) : ∀ k, v.ownBlock = some k → base ≤ k := fun k hk => (h.lt k hk).1
/-- A row of numbers of the call's own. -/
abbrev OwnL (w : World) (base : Nat) (v : Value) (l : List Int) : Prop := w.ownsRow base 2 1 v l.length (l.map (Value.int .i64))
theorem OwnL.ns {w : World} {base : Nat} {v : Value} {l : List Int} (h : OwnL w base v l) : NS w v l := by
  rcases h.2 with ⟨rfl, h0⟩ | ⟨g, cap, cur, rfl, _, hb, _, _, _, ht⟩
  · have : l = [] := List.length_eq_zero_iff.1 h0
    subst this
    exact ⟨none, 0, rfl, .inl rfl⟩
  · refine ⟨_, cap, rfl, .inr ⟨g, 0, rfl, (Array.getElem?_eq_some_iff.1 hb).1, ?_⟩⟩
    intro i x hx
    have hi : i < l.length := (List.getElem?_eq_some_iff.1 hx).1
    have h0 : (l.map (Value.int .i64))[i]? = some (.int .i64 x) := by simp [hx]
    rw [← ht, List.getElem?_take_of_lt (by omega)] at h0
    simp only [World.cell?, hb, Nat.zero_add]
    simpa using h0
theorem OwnL.below {w w' : World} {base : Nat} {v : Value} {l : List Int} (h : OwnL w base v l) (hb : Below w.heap.size w w') : OwnL w' base v l := by
  refine ⟨h.1, ?_⟩
  rcases h.2 with ⟨h1, h2⟩ | ⟨g, cap, cur, h1, h2, h3, h4⟩
  · exact .inl ⟨h1, h2⟩
  · exact .inr ⟨g, cap, cur, h1, h2, by rw [hb.block g (Array.getElem?_eq_some_iff.1 h3).1]; exact h3, h4⟩
theorem OwnL.snoc {w : World} {base n : Nat} {v : Value} {l : List Int} {x : Int} (h : w.ownsRow base 2 1 v (n + 1) (l.map (Value.int .i64) ++ [.int .i64 x])) (hn : n = l.length) : OwnL w base v (l ++ [x]) := by
  subst hn
  have : (l ++ [x]).map (Value.int .i64) = l.map (Value.int .i64) ++ [.int .i64 x] := by simp
  unfold OwnL
  rw [this, List.length_append]
  exact h
theorem OwnL.shape {w : World} {base : Nat} {v : Value} {l : List Int} (h : OwnL w base v l) : ∃ a cap, v = .slice a l.length cap := by
  obtain ⟨a, cap, h, _⟩ := OwnL.ns h
  exact ⟨a, cap, h⟩
theorem OwnL.lower {w : World} {base base' : Nat} {v : Value} {l : List Int} (h : OwnL w base v l) (hb : base' ≤ base) : OwnL w base' v l := by
  refine ⟨h.1, ?_⟩
  rcases h.2 with ⟨h1, h2⟩ | ⟨g, cap, cur, h1, h2, h3, h4⟩
  · exact .inl ⟨h1, h2⟩
  · exact .inr ⟨g, cap, cur, h1, by omega, h3, h4⟩
theorem OwnL.nil (w : World) (base : Nat) : OwnL w base (.slice none 0 0) [] := World.ownsRow_nil _ _ _ _
/-- A cell by value: a number, and a slice. -/
def CS (w : World) (v : Value) (c : Cl) : Prop := ∃ a cap, v = .agg #[.int .i64 c.1, .slice a c.2.length cap] ∧ NS w (.slice a c.2.length cap) c.2
def OwnC (w : World) (base : Nat) (v : Value) (c : Cl) : Prop := ∃ a cap, v = .agg #[.int .i64 c.1, .slice a c.2.length cap] ∧ OwnL w base (.slice a c.2.length cap) c.2
theorem CS.below {w w' : World} {v : Value} {c : Cl} (h : CS w v c) (hb : Below w.heap.size w w') : CS w' v c := by
  obtain ⟨a, cap, e, h⟩ := h
  exact ⟨a, cap, e, h.below hb⟩
theorem OwnC.below {w w' : World} {base : Nat} {v : Value} {c : Cl} (h : OwnC w base v c) (hb : Below w.heap.size w w') : OwnC w' base v c := by
  obtain ⟨a, cap, e, h⟩ := h
  exact ⟨a, cap, e, h.below hb⟩
theorem OwnC.cs {w : World} {base : Nat} {v : Value} {c : Cl} (h : OwnC w base v c) : CS w v c := by
  obtain ⟨a, cap, e, h⟩ := h
  exact ⟨a, cap, e, h.ns⟩
theorem OwnC.lower {w : World} {base base' : Nat} {v : Value} {c : Cl} (h : OwnC w base v c) (hb : base' ≤ base) : OwnC w base' v c := by
  obtain ⟨a, cap, e, h⟩ := h
  exact ⟨a, cap, e, h.lower hb⟩
theorem OwnC.num (w : World) (base : Nat) (n : Int) : OwnC w base (.agg #[.int .i64 n, .slice none 0 0]) (n, []) := ⟨none, 0, rfl, OwnL.nil _ _⟩
/-- Its numbers are such as an int64 holds. -/
def WfC (c : Cl) : Prop := Num64 c.1 ∧ ∀ v ∈ c.2, Num64 v
/-- The block of a cell. -/
def BlkC (W : World) (b : Nat) (n : Int) (v : Value) : Prop := W.heap[b]? = some (.cells #[.int .i64 n, v] 80 (0, 0))
theorem BlkC.new (W : World) (n : Int) (v : Value) : BlkC (W.alloc (.cells #[.int .i64 n, v] 80)) W.heap.size n v := heap_alloc_new W _
theorem BlkC.lt {W : World} {b : Nat} {n : Int} {v : Value} (h : BlkC W b n v) : b < W.heap.size := (Array.getElem?_eq_some_iff.1 h).1
theorem BlkC.below {W W' : World} {b : Nat} {n : Int} {v : Value} (h : BlkC W b n v) (hb : Below W.heap.size W W') : BlkC W' b n v := by unfold BlkC; rw [hb.block b h.lt]; exact h
theorem BlkC.drewN {W : World} {b : Nat} {n : Int} {v : Value} (h : BlkC W b n v) (q : Nat) : BlkC (W.drewN q) b n v := h
theorem BlkC.cells {W : World} {b : Nat} {n : Int} {v : Value} (h : BlkC W b n v) : W.cell? ⟨b, 0, none⟩ = some (.int .i64 n) ∧ W.cell? ⟨b, 1, none⟩ = some v ∧ W.frozen? ⟨b, 0, none⟩ = false ∧ W.frozen? ⟨b, 1, none⟩ = false := by
  unfold BlkC at h
  refine ⟨?_, ?_, ?_, ?_⟩ <;> simp [World.cell?, World.frozen?, h]
theorem loadCell {W : World} {b o : Nat} {n : Int} {v : Value} (h0 : W.cell? ⟨b, o, none⟩ = some (.int .i64 n)) (h1 : W.cell? ⟨b, o + 1, none⟩ = some v) : (loadVar 80 ⟨b, o, none⟩).run Tryz.prog W = .ok (.agg #[.int .i64 n, v]) W := by
  have a30 := Tryz.isAgg80
  have z30 := Tryz.sizeOf80
  have hc := run_loadCells_list (P := Tryz.prog) W ⟨b, o, none⟩ [.int .i64 n, v] (fun j u hj => by
    match j, hj with
    | 0, hj => simp at hj; subst hj; simpa [Addr.add] using h0
    | 1, hj => simp at hj; subst hj; simpa [Addr.add] using h1)
  simp [loadVar, a30, z30]
  have hc' : (loadCells ⟨b, o, none⟩ 2).run Tryz.prog W = .ok #[.int .i64 n, v] W := hc
  rw [hc']
  rfl
theorem BlkC.load {W : World} {b : Nat} {n : Int} {v : Value} (h : BlkC W b n v) : (loadVar 80 ⟨b, 0, none⟩).run Tryz.prog W = .ok (.agg #[.int .i64 n, v]) W := loadCell h.cells.1 h.cells.2.1
theorem results_cell2 {P : Program} {fn : Func} {t u : Tmp} {T : TypeId} {a : Addr} {x : Value} (h : fn.results = #[.cell t T, .tmp u]) {tmps : Array Value} {w : World} (hp : tmps.getD t undef = .pointer (some a)) (hl : (loadVar T a).run P w = .ok x w) :
    (results fn tmps).run P w = .ok (.tuple #[x, tmps.getD u undef]) w := by
  have hp' : tmps[t]?.getD undef = .pointer (some a) := by simpa using hp
  simp [results, h, hp', hl, asAddr]
theorem results_cell3 {P : Program} {fn : Func} {t u v : Tmp} {T : TypeId} {a : Addr} {x : Value} (h : fn.results = #[.cell t T, .tmp u, .tmp v]) {tmps : Array Value} {w : World} (hp : tmps.getD t undef = .pointer (some a)) (hl : (loadVar T a).run P w = .ok x w) :
    (results fn tmps).run P w = .ok (.tuple #[x, tmps.getD u undef, tmps.getD v undef]) w := by
  have hp' : tmps[t]?.getD undef = .pointer (some a) := by simpa using hp
  simp [results, h, hp', hl, asAddr]
theorem results_cell1 {P : Program} {fn : Func} {t : Tmp} {T : TypeId} {a : Addr} {x : Value} (h : fn.results = #[.cell t T]) {tmps : Array Value} {w : World} (hp : tmps.getD t undef = .pointer (some a)) (hl : (loadVar T a).run P w = .ok x w) :
    (results fn tmps).run P w = .ok x w := by
  have hp' : tmps[t]?.getD undef = .pointer (some a) := by simpa using hp
  simp [results, h, hp', hl, asAddr]
end Go.Proofs.YtaagllbcmgnbnaaGreatDoor
/- key.Check, key.Bytes, and the page's own Key. -/
namespace Go.Proofs.YtaagllbcmgnbnaaGreatDoor
open Go.RowKit
set_option linter.unusedVariables false
set_option maxRecDepth 100000
theorem kcheck_any (x : Ky) (w : World) : Calls Tryz.prog 76 #[.agg #[.int .i64 x.1, .string x.2]] w fun e w' => e = .returned (.int .i64 (if x.2.size ≤ 64 then 0 else 1)) ∧ Below w.heap.size w w' := by
  obtain ⟨a, b⟩ := x
  by_cases h : b.size ≤ 64
  · have h' : decide (64 < (b.size : Int)) = false := by simp; omega
    simp only [h, if_true]
    go_enter Tryz.func76, Tryz.ntmps76
    go_wp2
    go_ret
    exact ⟨rfl, (Below.refl _ _).alloc (Nat.le_refl _) _⟩
  · have h' : decide (64 < (b.size : Int)) = true := by simp; omega
    simp only [h, if_false]
    go_enter Tryz.func76, Tryz.ntmps76
    go_wp2
    go_ret
    exact ⟨rfl, (Below.refl _ _).alloc (Nat.le_refl _) _⟩
theorem rkey_any (x : Ky) (w : World) : Calls Tryz.prog 41 #[.agg #[.int .i64 x.1, .string x.2]] w fun e w' => e = .returned (.bool (decide (x.2.size ≤ 64))) ∧ Below w.heap.size w w' := by
  obtain ⟨a, b⟩ := x
  have h' : decide ((b.size : Int) ≤ 64) = decide (b.size ≤ 64) := by simp; omega
  go_enter Tryz.func41, Tryz.ntmps41
  go_wp2
  go_ret
  exact ⟨by simp, (Below.refl _ _).alloc (Nat.le_refl _) _⟩
theorem keepB {w W w' : World} {a : Int} {b : ByteArray} (h : W.cell? ⟨w.heap.size, 0, none⟩ = some (.int .i64 a) ∧ W.cell? ⟨w.heap.size, 1, none⟩ = some (.string b) ∧ w.heap.size < W.heap.size ∧ Below w.heap.size w W) (hb : Below W.heap.size W w') :
    w'.cell? ⟨w.heap.size, 0, none⟩ = some (.int .i64 a) ∧ w'.cell? ⟨w.heap.size, 1, none⟩ = some (.string b) ∧ w.heap.size < w'.heap.size ∧ Below w.heap.size w w' :=
  ⟨(hb.cell (p := ⟨w.heap.size, 0, none⟩) h.2.2.1).trans h.1, (hb.cell (p := ⟨w.heap.size, 1, none⟩) h.2.2.1).trans h.2.1, Nat.lt_of_lt_of_le h.2.2.1 hb.size, h.2.2.2.trans (hb.mono h.2.2.2.size)⟩
theorem startB (w W : World) (a : Int) (b : ByteArray) (T : TypeId) (hW : Below w.heap.size w W) (hs : w.heap.size < W.heap.size) (h0 : W.cell? ⟨w.heap.size, 0, none⟩ = some (.int .i64 a)) (h1 : W.cell? ⟨w.heap.size, 1, none⟩ = some (.string b)) :
    W.drew.cell? ⟨w.heap.size, 0, none⟩ = some (.int .i64 a) ∧ W.drew.cell? ⟨w.heap.size, 1, none⟩ = some (.string b) ∧ w.heap.size < W.drew.heap.size ∧ Below w.heap.size w W.drew :=
  ⟨h0, h1, hs, hW.drew⟩
theorem boxed (w : World) (a : Int) (b : ByteArray) (T : TypeId) :
    Below w.heap.size w (w.alloc (.cells #[.int .i64 a, .string b] T)) ∧ w.heap.size < (w.alloc (.cells #[.int .i64 a, .string b] T)).heap.size ∧ (w.alloc (.cells #[.int .i64 a, .string b] T)).cell? ⟨w.heap.size, 0, none⟩ = some (.int .i64 a) ∧ (w.alloc (.cells #[.int .i64 a, .string b] T)).cell? ⟨w.heap.size, 1, none⟩ = some (.string b) :=
  ⟨(Below.refl _ _).alloc (Nat.le_refl _) _, by simp, by unfold World.cell?; rw [(MapKept.heap_alloc w _).1]; rfl, by unfold World.cell?; rw [(MapKept.heap_alloc w _).1]; rfl⟩
/-- A number that has bytes. -/
def Okn (n : Int) : Prop := -9223372036854775808 ≤ n ∧ n ≤ 9223372036854775807
theorem bytes_ok (n : Int) (w : World) (h : Okn n) : Calls Tryz.prog 122 #[.int .i64 n] w fun e w' => e = .returned (.string (bytesOf n)) ∧ Below w.heap.size w w' := bytes_any n w h.1 h.2
set_option maxRecDepth 100000 in
set_option maxHeartbeats 400000 in
theorem kbytes_any (x : Ky) (w : World) (h : x.2.size ≤ 64) (h1 : -9223372036854775808 ≤ x.1) (h2 : x.1 ≤ 9223372036854775807) :
    Calls Tryz.prog 91 #[.agg #[.int .i64 x.1, .string x.2]] w fun e w' => e = .returned (.tuple #[.string (kBytes x), .int .i64 0]) ∧ Below w.heap.size w w' := by
  obtain ⟨a, b⟩ := x
  have hc := fun W => kcheck_any (a, b) W
  have l1 := bytes_len a
  have l2 := bytes_len (b.size : Int)
  simp only at h h1 h2
  simp only [h, if_true] at hc
  have hadd : ∀ W, (Op.stringOp .add (bytesOf a) (bytesOf (b.size : Int))).run Tryz.prog W = .ok (.string (bytesOf a ++ bytesOf (b.size : Int))) W := fun W => run_string_add_sum W _ _ (by omega)
  have hadd2 : ∀ W, (Op.stringOp .add (bytesOf a ++ bytesOf (b.size : Int)) b).run Tryz.prog W = .ok (.string (bytesOf a ++ bytesOf (b.size : Int) ++ b)) W := fun W => run_string_add_sum W _ _ (by rw [ByteArray.size_append]; omega)
  have o1 : Okn a := ⟨h1, h2⟩
  have o2 : Okn (b.size : Int) := ⟨by omega, by omega⟩
  unfold kBytes
  simp only
  clear h h1 h2 l1 l2
  obtain ⟨x1, x2, x3, x4⟩ := boxed w a b 66
  go_enter Tryz.func91, Tryz.ntmps91
  go_wp2_with (go_at_call 76; refine (hc _).mono ?_; rintro e w1 ⟨rfl, hk⟩)
  have y1 := x1.trans (hk.mono x1.size)
  have y2 := Nat.lt_of_lt_of_le x2 hk.size
  have y3 := (hk.cell (p := ⟨w.heap.size, 0, none⟩) x2).trans x3
  have y4 := (hk.cell (p := ⟨w.heap.size, 1, none⟩) x2).trans x4
  clear x1 x2 x3 x4 hk
  go_region_held3 (fun W => W.cell? ⟨w.heap.size, 0, none⟩ = some (.int .i64 a) ∧ W.cell? ⟨w.heap.size, 1, none⟩ = some (.string b) ∧ w.heap.size < W.heap.size ∧ Below w.heap.size w W) (first | exact keepB (by assumption) (by assumption) | exact startB w _ a b 66 y1 y2 y3 y4)
    (first | (go_at_call 122; refine (bytes_ok _ _ (by assumption)).mono ?_; rintro e w' ⟨rfl, hb2⟩))
  obtain ⟨_, _, _, hbelW⟩ := ‹_ ∧ _ ∧ _ ∧ Below w.heap.size w _›
  go_wp2
  go_ret2
  exact ⟨rfl, hbelW⟩
end Go.Proofs.YtaagllbcmgnbnaaGreatDoor
/- num.Take, and the law's num1 over it: what each answers, for every string. -/
namespace Go.Proofs.YtaagllbcmgnbnaaGreatDoor
open Go.RowKit
set_option linter.unusedVariables false
set_option maxRecDepth 100000

theorem ret3 {a b c a' b' c' : Int} {t : Int × Int × Int} (h : t = (a', b', c')) (h1 : a = a') (h2 : b = b') (h3 : c = c') :
    Ending.returned (.tuple #[.int .i64 a, .int .i64 b, .int .i64 c]) = .returned (.tuple #[.int .i64 t.1, .int .i64 t.2.1, .int .i64 t.2.2]) := by rw [h, h1, h2, h3]

set_option maxHeartbeats 400000 in
set_option maxRecDepth 100000 in
theorem take_any (s : ByteArray) (w : World) (hs : s.size ≤ maxLen) :
    Calls Tryz.prog 193 #[.string s] w fun e w' => e = .returned (.tuple #[.int .i64 (takeOf s).1, .int .i64 (takeOf s).2.1, .int .i64 (takeOf s).2.2]) ∧ w' = w := by
  unfold maxLen at hs
  go_enter Tryz.func193, Tryz.ntmps193
  go_wp2
  go_loop [5, 10] (fun u i => ∃ (k : Nat) (x : Int), k ≤ s.size ∧ k ≤ 9 ∧ i = .int .i64 k ∧ u = .int .u64 x ∧ 0 ≤ x ∧ Hid (x < 2 ^ (7 * k)) ∧ Hid (takeOf s = takeL (s.data.toList.drop k) k x)) (fun _ i => s.size - (intOf i).toNat)
  case atStart => exact ⟨0, 0, by omega, by omega, rfl, rfl, by omega, by unfold Hid; decide, rfl⟩
  case round =>
    obtain ⟨k, x, hk, hk9, rfl, rfl, hx0, HX, HT⟩ := hrel
    by_cases hlt : k < s.size
    · have hc1 : s[k].toNat < 256 := s[k].toNat_lt
      have hd := drop_byte s k hlt
      by_cases h9 : k = 9 ∧ 1 < s[k].toNat
      · obtain ⟨h9, hb⟩ := h9
        have HE : Hid (takeOf s = (0, 0, 7)) := by rw [HT.out, hd]; exact takeL_nine _ _ _ _ h9 hb
        have h9' : 9 ≤ k := by omega
        clear h9 hd HT HX
        go_wp2
        go_ret3
        exact ⟨ret3 HE.out rfl rfl rfl, rfl⟩
      · obtain ⟨ho, hl0, hl1, hl2⟩ := or_step k x s[k].toNat hx0 HX.out (by omega) (by omega) (by omega)
        by_cases hb : 128 ≤ s[k].toNat
        · have HE : Hid (takeOf s = takeL (s.data.toList.drop (k + 1)) (k + 1) (x + (s[k].toNat : Int) % 128 * 2 ^ (7 * k))) := by rw [HT.out, hd]; exact takeL_more _ _ _ _ (by omega) hb
          have HX2 : Hid (x + (s[k].toNat : Int) % 128 * 2 ^ (7 * k) < 2 ^ (7 * (k + 1))) := hl2 (by omega)
          have h8 : k ≤ 8 := by omega
          have HO : Hid (_ = _) := ho
          clear ho hd HT HX hl2 hl1 h9
          go_wp2
          go_round
          case rel => exact ⟨k + 1, _, by omega, by omega, by go_num, by rw [HO.out], hl0, HX2, HE⟩
          case measure => simp [intOf]; omega
        · have hb' : s[k].toNat < 128 := by omega
          by_cases hz : s[k].toNat = 0 ∧ 0 < k
          · obtain ⟨hz, hk0⟩ := hz
            have HE : Hid (takeOf s = (0, 0, 7)) := by rw [HT.out, hd]; exact takeL_zero _ _ _ _ hk0 hz
            have hz' : s[k].toNat ≤ 0 := by omega
            have hk0' : (0 : Int) < k := by omega
            clear ho hd HT HX hl2 hl1 h9 hz hb
            go_wp2
            all_goals
              go_ret3
              exact ⟨ret3 HE.out rfl rfl rfl, rfl⟩
          · have HE : Hid (takeOf s = (zag (x + (s[k].toNat : Int) % 128 * 2 ^ (7 * k)), (k : Int) + 1, 0)) := by rw [HT.out, hd]; exact takeL_end _ _ _ _ (by omega) hb' (by omega)
            have HO : Hid (_ = _) := ho
            clear ho hd HT HX hl2 hb
            by_cases h9e : k = 9
            · have hq : 9 ≤ k := by omega
              have hc : (s[k].toNat : Int) ≤ 1 := by omega
              have hz0 : ((s[k].toNat : Int) == 0) = false := by simp; omega
              have HO9 : Hid (bits .or .u64 x (IntKind.u64.wrap (IntKind.u64.wrap (bits .andNot .u8 (s[k].toNat : Int) 128) * 9223372036854775808)) = x + (s[k].toNat : Int) % 128 * 2 ^ (7 * k)) := by
                unfold Hid
                rw [show (9223372036854775808 : Int) = 2 ^ (7 * k) by rw [h9e]; rfl]
                exact HO.out
              clear h9 hz h9e HO
              go_wp2_with (go_at_call 218; rw [HO9.out]; refine (turnBack_any _ _ hl0 hl1).mono ?_; rintro e w' ⟨rfl, rfl⟩)
              go_ret3
              exact ⟨ret3 HE.out rfl (by omega) rfl, rfl⟩
            · have hq : ((k : Int) == 9) = false := by simp; omega
              by_cases hz1 : s[k].toNat = 0
              · have hz0 : ((s[k].toNat : Int) == 0) = true := by simp; omega
                have hk0 : (k : Int) ≤ 0 := by omega
                clear h9 hz h9e hz1
                go_wp2_with (go_at_call 218; rw [HO.out]; refine (turnBack_any _ _ hl0 hl1).mono ?_; rintro e w' ⟨rfl, rfl⟩)
                go_ret3
                exact ⟨ret3 HE.out rfl rfl rfl, rfl⟩
              · have hz0 : ((s[k].toNat : Int) == 0) = false := by simp; omega
                clear h9 hz h9e hz1
                go_wp2_with (go_at_call 218; rw [HO.out]; refine (turnBack_any _ _ hl0 hl1).mono ?_; rintro e w' ⟨rfl, rfl⟩)
                go_ret3
                exact ⟨ret3 HE.out rfl rfl rfl, rfl⟩
    · have HE : Hid (takeOf s = (0, 0, 6)) := by rw [HT.out, drop_end s k (by omega)]; exact takeL_nil _ _
      clear HT HX
      go_wp2
      go_ret3
      exact ⟨ret3 HE.out rfl rfl rfl, rfl⟩
end Go.Proofs.YtaagllbcmgnbnaaGreatDoor
