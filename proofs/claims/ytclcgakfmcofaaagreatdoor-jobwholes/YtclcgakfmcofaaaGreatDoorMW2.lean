/- Texts laid together: Bytes, GBytes, GJoin, NRow, GRow, WKeyF, Take, fb, RRec, WRow, WMap. -/
import Derived.Test.YtclcgakfmcofaaaGreatDoorRows
import Derived.Test.YtclcgakfmcofaaaGreatDoorMW1
import Derived.WalkKit
import Derived.WalkSpells
import Derived.Lib.SlicesCompact
import Derived.ProofKit
import Derived.Below
import Derived.OwnWalk
import Derived.Maps.AppendAt
import Derived.Deep.QuietTactic
import Derived.BigQuiet
import Derived.WalkSmall
import Derived.Deep.RegionHeld3
import Derived.SizedLaws
import Derived.OpenShut
import Derived.ShutString
import Derived.ChangeOld
import Derived.Deep.Slices
import Derived.Maps.Own
import Derived.Maps.OwnOps
import Derived.Maps.RangeWalk
import Derived.Maps.OwnSet
import Derived.Maps.Views
import Derived.DeepKeys4
set_option linter.unusedVariables false
set_option maxRecDepth 100000
set_option maxHeartbeats 400000
namespace Go.Proofs.YtclcgakfmcofaaaGreatDoor
open Go.RowKit
theorem turn_any (n : Int) (w : World) (h1 : -9223372036854775808 ≤ n) (h2 : n ≤ 9223372036854775807) :
  Calls Tryz.prog 121 #[.int .i64 n] w fun e w' => e = .returned (.int .u64 (iL n)) ∧ w' = w := by
 by_cases h0 : n < 0
 ·have hz : 18446744073709551615 - IntKind.u64.wrap (IntKind.u64.wrap n * 2) = iL n := by rw [IntKind.wrap_u64, IntKind.wrap_u64, iL, if_pos h0]; omega
  have hx := lT (IntKind.u64.wrap (IntKind.u64.wrap n * 2)) (by rw [IntKind.wrap_u64]; omega) (by rw [IntKind.wrap_u64]; omega)
  have H : Hid (bits .xor .u64 IntKind.u64.max (IntKind.u64.wrap (IntKind.u64.wrap n * 2)) = iL n) := hx.trans hz
  clear hz hx
  go_enter Tryz.func121, Tryz.ntmps121
  go_wp2
  go_ret
  exact ⟨bH H.out, rfl⟩
 ·have H : Hid (n * 2 = iL n) := by unfold Hid iL; rw [if_neg h0]; omega
  have h0' : 0 ≤ n := by omega
  clear h0
  go_enter Tryz.func121, Tryz.ntmps121
  go_wp2
  go_ret
  exact ⟨bH H.out, rfl⟩
theorem fT (u : Int) (w : World) (h0 : 0 ≤ u) (h1 : u ≤ 18446744073709551615) :
  Calls Tryz.prog 126 #[.int .u64 u] w fun e w' => e = .returned (.int .i64 (ku u)) ∧ w' = w := by
 by_cases h : u % 2 = 1
 ·have ht : (bits .and .u64 u 1 == 1) = true := by rw [and1 u h0 h1, h]; rfl
  have H : Hid (bits .xor .i64 (-1) (u / 2) = ku u) := by unfold Hid ku; rw [if_pos h, lU _ (by omega) (by omega)]
  clear h
  go_enter Tryz.func126, Tryz.ntmps126
  go_wp2
  go_ret
  exact ⟨bH H.out, rfl⟩
 ·have ht : (bits .and .u64 u 1 == 1) = false := by rw [and1 u h0 h1]; simp; omega
  have H : Hid (u / 2 = ku u) := by unfold Hid ku; rw [if_neg h]
  clear h
  go_enter Tryz.func126, Tryz.ntmps126
  go_wp2
  go_ret
  exact ⟨bH H.out, rfl⟩
theorem Tryz.info5 : (Tryz.prog.info? 5).map (fun i => (i.zero, i.size, i.bytes)) = some (some (.int .u8 0), 1, 1) := by kernel_rfl
theorem cell_of_row {w : World} {g : Nat} {cur : Array Value} {e : TypeId} {i : Nat} {v : Value} (hh : w.heap[g]? = some (.cells cur e (0, 0))) (hlt : i < cur.size) (he : cur[i]? = some v) : w.cell? ⟨g, i, none⟩ = some v := by
 simp [World.cell?, hh, he]
theorem mi {w : World} {base : Nat} {v : Value} {xs : List Int} (h : w.ownsRow base 5 1 v xs.length (xs.map (Value.int .u8))) (hne : 0 < xs.length) :
  (convert 68 9 v).run Tryz.prog w = .ok (.string (strOfNums xs)) w := by
 obtain ⟨_, ⟨_, h0⟩ | ⟨g, cap, cur, rfl, hg, hh, hn, hc, hs, ht⟩⟩ := h
 ·omega
 ·refine run_convert_bytes_arg w 68 5 Tryz.underlying68 Tryz.underlying5 g 0 xs.length cap xs rfl ?_ 9 Tryz.underlying9
  intro i hi
  have e : cur.toList[i]? = some (.int .u8 (xs.getD i 0)) := by
   have : (cur.toList.take (xs.length * 1))[i]? = some (.int .u8 (xs.getD i 0)) := by rw [ht]; simp [hi, List.getD]
   rw [List.getElem?_take] at this
   split at this
   ·exact this
   ·exact absurd this (by simp)
  have hlt : i < cur.size := by rw [hs]; omega
  rw [Nat.zero_add]
  exact cell_of_row hh hlt (by simpa using e)
theorem ie (n : Int) (w : World) (h1 : -9223372036854775808 ≤ n) (h2 : n ≤ 9223372036854775807) :
  Calls Tryz.prog 75 #[.int .i64 n] w fun e w' => e = .returned (.string (bytesOf n)) ∧ Below w.heap.size w w' := by
 obtain ⟨i0, hi, hz0, hz1, hz2⟩ := info_parts Tryz.info5
 obtain ⟨z0, z1⟩ := zig_bd n h1 h2
 go_enter Tryz.func75, Tryz.ntmps75
 go_wp2_with (go_at_call 121; refine (turn_any n _ h1 h2).mono ?_; rintro e w' ⟨rfl, rfl⟩)
 go_loopw [3, 4] (fun v u wr => ∃ (l : List Int) (x : Int), u = .int .u64 x ∧ Left (iL n) x l ∧ wr.ownsRow w'.heap.size 5 1 v l.length (l.map (Value.int .u8)) ∧ Below w'.heap.size w' wr)
  (fun _ u _ => (intOf u).toNat)
 case atStart => exact ⟨[], _, rfl, iM _ z0 z1, World.ownsRow_nil _ _ _ _, Below.refl _ _⟩
 case round =>
  obtain ⟨l, x, rfl, hL, hown, hb⟩ := hrel
  have hx0 := mh hL
  have hlen := mg hL
  have hsz := hb.size
  by_cases hx : x < 128
  ·have HE : Hid (l ++ [x] = ix 10 (iL n)) := mf hL hx
   go_wp2_with (at_builtin; refine wpList_append_own _ rfl _ _ 68 rfl w'.heap.size 5 i0 (.int .u8 0) 1 1 Tryz.underlying68 hi hz0 hz1 hz2 rfl (by decide) _ _ _ rfl (hown.alloc _) ⟨wr.heap.size, 0, none⟩ 1 1 [.int .u8 x] rfl rfl ?c1 ?c2 ?c3 ?c4 ?c5 ?_)
   case c1 =>
    intro j u hj
    match j, hj with
    | 0, hj => simp at hj; subst hj; simp [Addr.add]
   case c2 => first | rfl | (intro u hu; simp at hu; subst hu; rfl)
   case c3 => unfold maxLen; omega
   case c4 => omega
   case c5 => simp; omega
   intro v2 w2 hown2 hgrow2 _
   have hown3 : w2.ownsRow w'.heap.size 5 1 v2 (ix 10 (iL n)).length ((ix 10 (iL n)).map (Value.int .u8)) := by rw [← HE.out]; simpa using hown2
   have hcv := mi hown3 (by rw [← HE.out]; simp)
   have hbel : Below w'.heap.size w' w2 := (hb.alloc hsz _).grown hgrow2 (by simp; omega) (fun k hk => by
    rcases hown.2 with ⟨rfl, _⟩ | ⟨g, cap, cur, rfl, hg, _⟩
    ·cases hk
    ·cases hk; exact hg)
   clear hown2 hgrow2 hown hown3
   go_wp2
   go_ret
   exact ⟨rfl, hbel⟩
  ·have HE := kv hL hx
   have ho : bits .or .u8 (x % 256) 128 = x % 128 + 128 := by rw [← IntKind.wrap_u8']; exact or128 x
   have hx' : 128 ≤ x := by omega
   go_wp2_with (at_builtin; refine wpList_append_own _ rfl _ _ 68 rfl w'.heap.size 5 i0 (.int .u8 0) 1 1 Tryz.underlying68 hi hz0 hz1 hz2 rfl (by decide) _ _ _ rfl (hown.alloc _) ⟨wr.heap.size, 0, none⟩ 1 1 [.int .u8 (x % 128 + 128)] rfl rfl ?d1 ?d2 ?d3 ?d4 ?d5 ?_)
   case d2 => first | rfl | (intro u hu; simp at hu; subst hu; rfl)
   case d3 => unfold maxLen; omega
   case d4 => omega
   case d5 => omega
   intro v2 w2 hown2 hgrow2 _
   have hown3 : w2.ownsRow w'.heap.size 5 1 v2 (l ++ [x % 128 + 128]).length ((l ++ [x % 128 + 128]).map (Value.int .u8)) := by simpa using hown2
   have hbel : Below w'.heap.size w' w2 := (hb.alloc hsz _).grown hgrow2 (by simp; omega) (fun k hk => by
    rcases hown.2 with ⟨rfl, _⟩ | ⟨g, cap, cur, rfl, hg, _⟩
    ·cases hk
    ·cases hk; exact hg)
   clear hown2 hgrow2 hown
   go_wp2
   go_roundw
   case rel => exact ⟨_, _, rfl, HE, hown3, hbel⟩
   case measure => simp [intOf]; omega
def bw (n : Int) : Prop := -9223372036854775808 ≤ n ∧ n ≤ 9223372036854775807
def nH : List Int → ByteArray
 | [] => ⟨#[]⟩
 | x :: l => bytesOf x ++ nH l
def ci (agg : Int) (c : Cl) : ByteArray := if agg = 6 then bytesOf (c.2.length : Int) ++ nH c.2 else bytesOf c.1
def gH (agg : Int) (bound : Nat) (c : Cl) : Bool :=
 if agg = 6 then decide (c.1 = 0) && decide (bl c.2) && decide (c.2.length ≤ bound) else decide (c.2 = []) && decide (agg = 2 → 0 ≤ c.1 ∧ c.1 ≤ 4611686018427387904)
end Go.Proofs.YtclcgakfmcofaaaGreatDoor
namespace Go.Proofs.YtclcgakfmcofaaaGreatDoor
open Go.Lib Go.RowKit
theorem fB {d : Array Int} {j : Nat} (h : j < d.size) : d[j]! = d[j] := getElem!_pos d j h
theorem jA (d : Array Int) (hs : ∀ i j, i < j → j < d.size → d[i]! ≤ d[j]!) : ∀ m, m ≤ d.size → bl (compactUpTo d m) ∧ ∀ z, z ∈ compactUpTo d m ↔ ∃ j, j < m ∧ d[j]! = z
 | 0, _ => ⟨by simp [compactUpTo, bl], fun z => by simp [compactUpTo]⟩
 | m + 1, hm => by
  obtain ⟨h1, h2⟩ := jA d hs m (by omega)
  rw [compactUpTo_succ]
  by_cases hk : keeps d m = true
  ·rw [if_pos hk]
   have hk' : m = 0 ∨ d[m]! ≠ d[m - 1]! := by simpa [keeps] using hk
   refine ⟨kp h1 ?_, ?_⟩
   ·intro y hy
    obtain ⟨j, hj, rfl⟩ := (h2 y).1 hy
    rcases hk' with rfl | hk'
    ·omega
    ·have e1 := hs (m - 1) m (by omega) (by omega)
     by_cases e : j = m - 1
     ·subst e; omega
     ·have e2 := hs j (m - 1) (by omega) (by omega); omega
   ·intro z
    rw [List.mem_append, h2]
    constructor
    ·rintro (⟨j, hj, e⟩ | h)
     ·exact ⟨j, by omega, e⟩
     ·simp at h; exact ⟨m, by omega, h.symm⟩
    ·rintro ⟨j, hj, e⟩
     by_cases e1 : j = m
     ·subst e1; right; simp [← e]
     ·left; exact ⟨j, by omega, e⟩
  ·rw [if_neg hk, List.append_nil]
   have hk' : ¬ (m = 0 ∨ d[m]! ≠ d[m - 1]!) := by simpa [keeps] using hk
   refine ⟨h1, fun z => ?_⟩
   rw [h2]
   constructor
   ·rintro ⟨j, hj, e⟩; exact ⟨j, by omega, e⟩
   ·rintro ⟨j, hj, e⟩
    by_cases e1 : j = m
    ·refine ⟨m - 1, by omega, ?_⟩
     rw [← e, e1]
     exact (Classical.not_not.1 fun h => hk' (.inr h)).symm
    ·exact ⟨j, by omega, e⟩
abbrev jn : Int → Int → Bool := fun x y => decide (x ≤ y)
theorem sorted_get (l : List Int) : ∀ i j, i < j → j < (l.mergeSort jn).toArray.size → (l.mergeSort jn).toArray[i]! ≤ (l.mergeSort jn).toArray[j]! := by
 have hp := List.pairwise_mergeSort (le := jn) (fun a b c h1 h2 => by simp only [jn, decide_eq_true_eq] at h1 h2 ⊢; omega) (fun a b => by simp only [jn, Bool.or_eq_true, decide_eq_true_eq]; omega) l
 intro i j hij hj
 have hj' : j < (l.mergeSort jn).length := by simpa using hj
 have := List.pairwise_iff_getElem.1 hp i j (by omega) hj' hij
 rw [fB hj, fB (by omega)]
 simpa [jn] using this
theorem jC (a b : List Int) (hb : bl b) : compactUpTo ((a ++ b).mergeSort jn).toArray ((a ++ b).mergeSort jn).toArray.size = uni a b := by
 obtain ⟨h1, h2⟩ := jA _ (sorted_get (a ++ b)) _ (Nat.le_refl _)
 refine gF h1 (jt a hb) fun z => ?_
 rw [h2, lR, ← List.mem_append, ← (List.mergeSort_perm (a ++ b) jn).mem_iff]
 constructor
 ·rintro ⟨j, hj, e⟩
  rw [fB hj] at e
  rw [← e]
  simp
 ·intro h
  obtain ⟨j, hj, e⟩ := List.getElem_of_mem h
  exact ⟨j, by simpa using hj, by rw [fB (by simpa using hj)]; simpa using e⟩
structure MJ (a b : List Int) (i k : Nat) (l : List Int) : Prop where
 ri : bl l
 mem : ∀ z, z ∈ l ↔ z ∈ a.take i ∨ z ∈ b.take k
 la : ∀ z ∈ l, ∀ y ∈ a.drop i, z < y
 lb : ∀ z ∈ l, ∀ y ∈ b.drop k, z < y
 len : l.length ≤ i + k
theorem MJ.start (a b : List Int) : MJ a b 0 0 [] := ⟨bl.nil, fun z => by simp, fun z hz => by simp at hz, fun z hz => by simp at hz, by simp⟩
theorem MJ.done {a b l : List Int} {i k : Nat} (h : MJ a b i k l) (hi : a.length ≤ i) (hk : b.length ≤ k) (hb : bl b) : l = uni a b :=
 gF h.ri (jt a hb) fun z => by rw [h.mem, lR, List.take_of_length_le hi, List.take_of_length_le hk]
theorem fC {a : List Int} {i : Nat} {x : Int} (hx : a[i]? = some x) : a.take (i + 1) = a.take i ++ [x] := by rw [List.take_add_one, hx]; rfl
theorem dz {a : List Int} {i : Nat} {x : Int} (hx : a[i]? = some x) : a.drop i = x :: a.drop (i + 1) := by
 obtain ⟨h, e⟩ := List.getElem?_eq_some_iff.1 hx
 rw [List.drop_eq_getElem_cons h, e]
theorem rise_drop {a : List Int} (h : bl a) (i : Nat) : bl (a.drop i) := List.Pairwise.sublist (List.drop_sublist i a) h
theorem dQ {a : List Int} (h : bl a) {i : Nat} {x : Int} (hx : a[i]? = some x) : ∀ y ∈ a.drop (i + 1), x < y := by
 have := rise_drop h i
 rw [dz hx, cQ] at this
 exact this.1
theorem MJ.left {a b l : List Int} {i k : Nat} {x : Int} (h : MJ a b i k l) (ha : bl a) (hb : bl b) (hx : a[i]? = some x) (hk : b.length ≤ k ∨ ∃ y, b[k]? = some y ∧ x < y) : MJ a b (i + 1) k (l ++ [x]) := by
 have hin : x ∈ a.drop i := by rw [dz hx]; simp
 refine ⟨kp h.ri fun y hy => h.la y hy x hin, fun z => ?_, ?_, ?_, by have := h.len; simp; omega⟩
 ·rw [fC hx, List.mem_append, List.mem_append, h.mem]
  constructor
  ·rintro ((h1 | h1) | h1)
   ·exact .inl (.inl h1)
   ·exact .inr h1
   ·exact .inl (.inr h1)
  ·rintro ((h1 | h1) | h1)
   ·exact .inl (.inl h1)
   ·exact .inr h1
   ·exact .inl (.inr h1)
 ·intro z hz y hy
  rw [List.mem_append] at hz
  rcases hz with hz | hz
  ·exact h.la z hz y (by rw [dz hx]; simp [hy])
  ·simp at hz; subst hz; exact dQ ha hx y hy
 ·intro z hz y hy
  rw [List.mem_append] at hz
  rcases hz with hz | hz
  ·exact h.lb z hz y hy
  ·simp at hz; subst hz
   rcases hk with hk | ⟨v, hv, hlt⟩
   ·rw [List.drop_of_length_le hk] at hy; simp at hy
   ·rw [dz hv, List.mem_cons] at hy
    rcases hy with rfl | hy
    ·exact hlt
    ·have := dQ hb hv y hy; omega
theorem MJ.swap {a b l : List Int} {i k : Nat} (h : MJ a b i k l) : MJ b a k i l := ⟨h.ri, fun z => by rw [h.mem]; exact Or.comm, h.lb, h.la, by have := h.len; omega⟩
theorem MJ.right {a b l : List Int} {i k : Nat} {x : Int} (h : MJ a b i k l) (ha : bl a) (hb : bl b) (hx : b[k]? = some x) (hk : a.length ≤ i ∨ ∃ y, a[i]? = some y ∧ x < y) : MJ a b i (k + 1) (l ++ [x]) := (h.swap.left hb ha hx hk).swap
theorem MJ.both {a b l : List Int} {i k : Nat} {x : Int} (h : MJ a b i k l) (ha : bl a) (hb : bl b) (hx : a[i]? = some x) (hy : b[k]? = some x) : MJ a b (i + 1) (k + 1) (l ++ [x]) := by
 have hin : x ∈ a.drop i := by rw [dz hx]; simp
 refine ⟨kp h.ri fun y hy => h.la y hy x hin, fun z => ?_, ?_, ?_, by have := h.len; simp; omega⟩
 ·rw [fC hx, fC hy, List.mem_append, List.mem_append, List.mem_append, h.mem]
  constructor
  ·rintro ((h1 | h1) | h1)
   ·exact .inl (.inl h1)
   ·exact .inr (.inl h1)
   ·exact .inl (.inr h1)
  ·rintro ((h1 | h1) | (h1 | h1))
   ·exact .inl (.inl h1)
   ·exact .inr h1
   ·exact .inl (.inr h1)
   ·exact .inr h1
 ·intro z hz y hy'
  rw [List.mem_append] at hz
  rcases hz with hz | hz
  ·exact h.la z hz y (by rw [dz hx]; simp [hy'])
  ·simp at hz; subst hz; exact dQ ha hx y hy'
 ·intro z hz y hy'
  rw [List.mem_append] at hz
  rcases hz with hz | hz
  ·exact h.lb z hz y (by rw [dz hy]; simp [hy'])
  ·simp at hz; subst hz; exact dQ hb hy y hy'
theorem jD : ∀ (l : List Int), (∀ i x y, l[i]? = some x → l[i + 1]? = some y → x < y) → bl l
 | [], _ => bl.nil
 | [x], _ => by simp [bl]
 | x :: y :: l, h => by
  have ih := jD (y :: l) fun i a b h1 h2 => h (i + 1) a b (by simpa using h1) (by simpa using h2)
  rw [cQ]
  refine ⟨fun z hz => ?_, ih⟩
  have h0 := h 0 x y rfl rfl
  rw [List.mem_cons] at hz
  rcases hz with rfl | hz
  ·exact h0
  ·rw [cQ] at ih
   have := ih.1 z hz
   omega
theorem rise_next {l : List Int} (h : bl l) {i : Nat} {x y : Int} (hx : l[i]? = some x) (hy : l[i + 1]? = some y) : x < y :=
 dQ h hx y (by rw [dz hy]; simp)
end Go.Proofs.YtclcgakfmcofaaaGreatDoor
namespace Go.Proofs.YtclcgakfmcofaaaGreatDoor
open Go.RowKit
theorem Tryz.info3 : (Tryz.prog.info? 3).map (fun i => (i.zero, i.size, i.bytes)) = some (some (.int .i64 0), 1, 8) := by kernel_rfl
def NumsAt (w : World) (b off : Nat) (l : List Int) : Prop := ∀ i x, l[i]? = some x → w.cell? ⟨b, off + i, none⟩ = some (.int .i64 x)
def NS (w : World) (v : Value) (l : List Int) : Prop :=
 ∃ a cap, v = .slice a l.length cap ∧ (l = [] ∨ ∃ b off, a = some ⟨b, off, none⟩ ∧ b < w.heap.size ∧ NumsAt w b off l)
theorem NumsAt.below {w w' : World} {b off B : Nat} {l : List Int} (h : NumsAt w b off l) (hb : Below B w w') (hlt : b < B) : NumsAt w' b off l := fun i x hx =>
 (hb.cell (p := ⟨b, off + i, none⟩) hlt).trans (h i x hx)
theorem NS.below {w w' : World} {v : Value} {l : List Int} (h : NS w v l) (hb : Below w.heap.size w w') : NS w' v l := by
 obtain ⟨a, cap, rfl, h⟩ := h
 refine ⟨a, cap, rfl, ?_⟩
 rcases h with h | ⟨b, off, rfl, hlt, h⟩
 ·exact .inl h
 ·exact .inr ⟨b, off, rfl, Nat.lt_of_lt_of_le hlt hb.size, h.below hb hlt⟩
abbrev aM (w : World) (base : Nat) (v : Value) (l : List Int) : Prop := w.ownsRow base 3 1 v l.length (l.map (Value.int .i64))
theorem NS.own {w : World} {base : Nat} {v : Value} {l : List Int} (h : aM w base v l) : NS w v l := by
 rcases h.2 with ⟨rfl, h0⟩ | ⟨g, cap, cur, rfl, _, hb, _, _, _, ht⟩
 ·have : l = [] := List.length_eq_zero_iff.1 h0
  subst this
  exact ⟨none, 0, rfl, .inl rfl⟩
 ·refine ⟨_, cap, rfl, .inr ⟨g, 0, rfl, (Array.getElem?_eq_some_iff.1 hb).1, ?_⟩⟩
  intro i x hx
  have hi : i < l.length := (List.getElem?_eq_some_iff.1 hx).1
  have h0 : (l.map (Value.int .i64))[i]? = some (.int .i64 x) := by simp [hx]
  rw [← ht, List.getElem?_take_of_lt (by omega)] at h0
  simp only [World.cell?, hb, Nat.zero_add]
  simpa using h0
theorem aM.below {w w' : World} {base : Nat} {v : Value} {l : List Int} (h : aM w base v l) (hb : Below w.heap.size w w') : aM w' base v l := by
 refine ⟨h.1, ?_⟩
 rcases h.2 with ⟨h1, h2⟩ | ⟨g, cap, cur, h1, h2, h3, h4⟩
 ·exact .inl ⟨h1, h2⟩
 ·exact .inr ⟨g, cap, cur, h1, h2, by rw [hb.block g (Array.getElem?_eq_some_iff.1 h3).1]; exact h3, h4⟩
theorem aM.shape {w : World} {base : Nat} {v : Value} {l : List Int} (h : aM w base v l) : ∃ a cap, v = .slice a l.length cap := by
 obtain ⟨a, cap, h, _⟩ := NS.own h
 exact ⟨a, cap, h⟩
theorem ae {p : Prop} (h : p) : Hid p := h
theorem ag {a b c : World} (h : Below a.heap.size a b) (k : Below b.heap.size b c) : Below a.heap.size a c := h.trans (k.mono h.size)
def ec (w wr : World) : Prop := ∃ q, wr = w.drewN q
theorem ec.refl (w : World) : ec w w := ⟨0, rfl⟩
theorem ec.step {w wr : World} (h : ec w wr) (q : Nat) : ec w (wr.drewN q) := by obtain ⟨n, rfl⟩ := h; exact ⟨n + q, by simp [World.drewN, Nat.add_assoc]⟩
theorem ec.below {w wr : World} (h : ec w wr) (B : Nat) : Below B w wr := by obtain ⟨n, rfl⟩ := h; exact ⟨rfl, rfl, rfl, Nat.le_refl _, fun _ _ => rfl⟩
theorem ak {α : Type} {l : List α} {i : Nat} (h : i < l.length) : ∃ x, l[i]? = some x := ⟨l[i], List.getElem?_eq_getElem h⟩
theorem Tryz.info2 : (Tryz.prog.info? 2).map (fun i => (i.zero, i.size, i.bytes)) = some (some (.int .i64 0), 1, 8) := by kernel_rfl
theorem aW {w : World} {base n : Nat} {e : TypeId} {size : Nat} {v : Value} {xs : List Value} (h : w.ownsRow base e size v n xs) : ∀ k, v.ownBlock = some k → base ≤ k := fun k hk => (h.lt k hk).1
abbrev ay (w : World) (base : Nat) (v : Value) (l : List Int) : Prop := w.ownsRow base 2 1 v l.length (l.map (Value.int .i64))
theorem ay.ns {w : World} {base : Nat} {v : Value} {l : List Int} (h : ay w base v l) : NS w v l := by
 rcases h.2 with ⟨rfl, h0⟩ | ⟨g, cap, cur, rfl, _, hb, _, _, _, ht⟩
 ·have : l = [] := List.length_eq_zero_iff.1 h0
  subst this
  exact ⟨none, 0, rfl, .inl rfl⟩
 ·refine ⟨_, cap, rfl, .inr ⟨g, 0, rfl, (Array.getElem?_eq_some_iff.1 hb).1, ?_⟩⟩
  intro i x hx
  have hi : i < l.length := (List.getElem?_eq_some_iff.1 hx).1
  have h0 : (l.map (Value.int .i64))[i]? = some (.int .i64 x) := by simp [hx]
  rw [← ht, List.getElem?_take_of_lt (by omega)] at h0
  simp only [World.cell?, hb, Nat.zero_add]
  simpa using h0
theorem ay.below {w w' : World} {base : Nat} {v : Value} {l : List Int} (h : ay w base v l) (hb : Below w.heap.size w w') : ay w' base v l := by
 refine ⟨h.1, ?_⟩
 rcases h.2 with ⟨h1, h2⟩ | ⟨g, cap, cur, h1, h2, h3, h4⟩
 ·exact .inl ⟨h1, h2⟩
 ·exact .inr ⟨g, cap, cur, h1, h2, by rw [hb.block g (Array.getElem?_eq_some_iff.1 h3).1]; exact h3, h4⟩
theorem ay.snoc {w : World} {base n : Nat} {v : Value} {l : List Int} {x : Int} (h : w.ownsRow base 2 1 v (n + 1) (l.map (Value.int .i64) ++ [.int .i64 x])) (hn : n = l.length) : ay w base v (l ++ [x]) := by
 subst hn
 have : (l ++ [x]).map (Value.int .i64) = l.map (Value.int .i64) ++ [.int .i64 x] := by simp
 unfold ay
 rw [this, List.length_append]
 exact h
theorem ay.shape {w : World} {base : Nat} {v : Value} {l : List Int} (h : ay w base v l) : ∃ a cap, v = .slice a l.length cap := by
 obtain ⟨a, cap, h, _⟩ := ay.ns h
 exact ⟨a, cap, h⟩
theorem ay.lower {w : World} {base base' : Nat} {v : Value} {l : List Int} (h : ay w base v l) (hb : base' ≤ base) : ay w base' v l := by
 refine ⟨h.1, ?_⟩
 rcases h.2 with ⟨h1, h2⟩ | ⟨g, cap, cur, h1, h2, h3, h4⟩
 ·exact .inl ⟨h1, h2⟩
 ·exact .inr ⟨g, cap, cur, h1, by omega, h3, h4⟩
theorem ay.nil (w : World) (base : Nat) : ay w base (.slice none 0 0) [] := World.ownsRow_nil _ _ _ _
def CS (w : World) (v : Value) (c : Cl) : Prop := ∃ a cap, v = .agg #[.int .i64 c.1, .slice a c.2.length cap] ∧ NS w (.slice a c.2.length cap) c.2
def iQ (w : World) (base : Nat) (v : Value) (c : Cl) : Prop := ∃ a cap, v = .agg #[.int .i64 c.1, .slice a c.2.length cap] ∧ ay w base (.slice a c.2.length cap) c.2
theorem iQ.num (w : World) (base : Nat) (n : Int) : iQ w base (.agg #[.int .i64 n, .slice none 0 0]) (n, []) := ⟨none, 0, rfl, ay.nil _ _⟩
def WfC (c : Cl) : Prop := bw c.1 ∧ ∀ v ∈ c.2, bw v
def aH (W : World) (b : Nat) (n : Int) (v : Value) : Prop := W.heap[b]? = some (.cells #[.int .i64 n, v] 127 (0, 0))
theorem aH.new (W : World) (n : Int) (v : Value) : aH (W.alloc (.cells #[.int .i64 n, v] 127)) W.heap.size n v := heap_alloc_new W _
theorem aH.lt {W : World} {b : Nat} {n : Int} {v : Value} (h : aH W b n v) : b < W.heap.size := (Array.getElem?_eq_some_iff.1 h).1
theorem aH.below {W W' : World} {b : Nat} {n : Int} {v : Value} (h : aH W b n v) (hb : Below W.heap.size W W') : aH W' b n v := by unfold aH; rw [hb.block b h.lt]; exact h
theorem aH.cells {W : World} {b : Nat} {n : Int} {v : Value} (h : aH W b n v) : W.cell? ⟨b, 0, none⟩ = some (.int .i64 n) ∧ W.cell? ⟨b, 1, none⟩ = some v ∧ W.frozen? ⟨b, 0, none⟩ = false ∧ W.frozen? ⟨b, 1, none⟩ = false := by
 unfold aH at h
 refine ⟨?_, ?_, ?_, ?_⟩ <;> simp [World.cell?, World.frozen?, h]
theorem loadCell {W : World} {b o : Nat} {n : Int} {v : Value} (h0 : W.cell? ⟨b, o, none⟩ = some (.int .i64 n)) (h1 : W.cell? ⟨b, o + 1, none⟩ = some v) : (loadVar 127 ⟨b, o, none⟩).run Tryz.prog W = .ok (.agg #[.int .i64 n, v]) W := by
 have a30 := Tryz.isAgg127
 have z30 := Tryz.sizeOf127
 have hc := run_loadCells_list (P := Tryz.prog) W ⟨b, o, none⟩ [.int .i64 n, v] (fun j u hj => by
  match j, hj with
  | 0, hj => simp at hj; subst hj; simpa [Addr.add] using h0
  | 1, hj => simp at hj; subst hj; simpa [Addr.add] using h1)
 simp [loadVar, a30, z30]
 have hc' : (loadCells ⟨b, o, none⟩ 2).run Tryz.prog W = .ok #[.int .i64 n, v] W := hc
 rw [hc']
 rfl
theorem aH.load {W : World} {b : Nat} {n : Int} {v : Value} (h : aH W b n v) : (loadVar 127 ⟨b, 0, none⟩).run Tryz.prog W = .ok (.agg #[.int .i64 n, v]) W := loadCell h.cells.1 h.cells.2.1
theorem ar {P : Program} {fn : Func} {t u : Tmp} {T : TypeId} {a : Addr} {x : Value} (h : fn.results = #[.cell t T, .tmp u]) {tmps : Array Value} {w : World} (hp : tmps.getD t undef = .pointer (some a)) (hl : (loadVar T a).run P w = .ok x w) :
  (results fn tmps).run P w = .ok (.tuple #[x, tmps.getD u undef]) w := by
 have hp' : tmps[t]?.getD undef = .pointer (some a) := by simpa using hp
 simp [results, h, hp', hl, asAddr]
theorem cC {P : Program} {fn : Func} {t : Tmp} {T : TypeId} {a : Addr} {x : Value} (h : fn.results = #[.cell t T]) {tmps : Array Value} {w : World} (hp : tmps.getD t undef = .pointer (some a)) (hl : (loadVar T a).run P w = .ok x w) :
  (results fn tmps).run P w = .ok x w := by
 have hp' : tmps[t]?.getD undef = .pointer (some a) := by simpa using hp
 simp [results, h, hp', hl, asAddr]
theorem eH (x : Ky) (w : World) : Calls Tryz.prog 79 #[.agg #[.int .i64 x.1, .string x.2]] w fun e w' => e = .returned (.int .i64 (if x.2.size ≤ 64 then 0 else 1)) ∧ Below w.heap.size w w' := by
 obtain ⟨a, b⟩ := x
 by_cases h : b.size ≤ 64
 ·have h' : decide (64 < (b.size : Int)) = false := by simp; omega
  simp only [h, if_true]
  go_enter Tryz.func79, Tryz.ntmps79
  go_wp2
  go_ret
  exact ⟨rfl, (Below.refl _ _).alloc (Nat.le_refl _) _⟩
 ·have h' : decide (64 < (b.size : Int)) = true := by simp; omega
  simp only [h, if_false]
  go_enter Tryz.func79, Tryz.ntmps79
  go_wp2
  go_ret
  exact ⟨rfl, (Below.refl _ _).alloc (Nat.le_refl _) _⟩
theorem rkey_any (x : Ky) (w : World) : Calls Tryz.prog 120 #[.agg #[.int .i64 x.1, .string x.2]] w fun e w' => e = .returned (.bool (decide (x.2.size ≤ 64))) ∧ Below w.heap.size w w' := by
 obtain ⟨a, b⟩ := x
 have h' : decide ((b.size : Int) ≤ 64) = decide (b.size ≤ 64) := by simp; omega
 go_enter Tryz.func120, Tryz.ntmps120
 go_wp2
 go_ret
 exact ⟨by simp, (Below.refl _ _).alloc (Nat.le_refl _) _⟩
theorem keepB {w W w' : World} {a : Int} {b : ByteArray} (h : W.cell? ⟨w.heap.size, 0, none⟩ = some (.int .i64 a) ∧ W.cell? ⟨w.heap.size, 1, none⟩ = some (.string b) ∧ w.heap.size < W.heap.size ∧ Below w.heap.size w W) (hb : Below W.heap.size W w') :
  w'.cell? ⟨w.heap.size, 0, none⟩ = some (.int .i64 a) ∧ w'.cell? ⟨w.heap.size, 1, none⟩ = some (.string b) ∧ w.heap.size < w'.heap.size ∧ Below w.heap.size w w' :=
 ⟨(hb.cell (p := ⟨w.heap.size, 0, none⟩) h.2.2.1).trans h.1, (hb.cell (p := ⟨w.heap.size, 1, none⟩) h.2.2.1).trans h.2.1, Nat.lt_of_lt_of_le h.2.2.1 hb.size, h.2.2.2.trans (hb.mono h.2.2.2.size)⟩
theorem startB (w W : World) (a : Int) (b : ByteArray) (T : TypeId) (hW : Below w.heap.size w W) (hs : w.heap.size < W.heap.size) (h0 : W.cell? ⟨w.heap.size, 0, none⟩ = some (.int .i64 a)) (h1 : W.cell? ⟨w.heap.size, 1, none⟩ = some (.string b)) :
  W.drew.cell? ⟨w.heap.size, 0, none⟩ = some (.int .i64 a) ∧ W.drew.cell? ⟨w.heap.size, 1, none⟩ = some (.string b) ∧ w.heap.size < W.drew.heap.size ∧ Below w.heap.size w W.drew :=
 ⟨h0, h1, hs, hW.drew⟩
theorem iC (w : World) (a : Int) (b : ByteArray) (T : TypeId) :
  Below w.heap.size w (w.alloc (.cells #[.int .i64 a, .string b] T)) ∧ w.heap.size < (w.alloc (.cells #[.int .i64 a, .string b] T)).heap.size ∧ (w.alloc (.cells #[.int .i64 a, .string b] T)).cell? ⟨w.heap.size, 0, none⟩ = some (.int .i64 a) ∧ (w.alloc (.cells #[.int .i64 a, .string b] T)).cell? ⟨w.heap.size, 1, none⟩ = some (.string b) :=
 ⟨(Below.refl _ _).alloc (Nat.le_refl _) _, by simp, by unfold World.cell?; rw [(MapKept.heap_alloc w _).1]; rfl, by unfold World.cell?; rw [(MapKept.heap_alloc w _).1]; rfl⟩
def Okn (n : Int) : Prop := -9223372036854775808 ≤ n ∧ n ≤ 9223372036854775807
theorem bytes_ok (n : Int) (w : World) (h : Okn n) : Calls Tryz.prog 75 #[.int .i64 n] w fun e w' => e = .returned (.string (bytesOf n)) ∧ Below w.heap.size w w' := ie n w h.1 h.2
theorem ml (x : Ky) (w : World) (h : x.2.size ≤ 64) (h1 : -9223372036854775808 ≤ x.1) (h2 : x.1 ≤ 9223372036854775807) :
  Calls Tryz.prog 168 #[.agg #[.int .i64 x.1, .string x.2]] w fun e w' => e = .returned (.tuple #[.string (aT x), .int .i64 0]) ∧ Below w.heap.size w w' := by
 obtain ⟨a, b⟩ := x
 have hc := fun W => eH (a, b) W
 have l1 := aN a
 have l2 := aN (b.size : Int)
 simp only at h h1 h2
 simp only [h, if_true] at hc
 have hadd : ∀ W, (Op.stringOp .add (bytesOf a) (bytesOf (b.size : Int))).run Tryz.prog W = .ok (.string (bytesOf a ++ bytesOf (b.size : Int))) W := fun W => run_string_add_sum W _ _ (by omega)
 have hadd2 : ∀ W, (Op.stringOp .add (bytesOf a ++ bytesOf (b.size : Int)) b).run Tryz.prog W = .ok (.string (bytesOf a ++ bytesOf (b.size : Int) ++ b)) W := fun W => run_string_add_sum W _ _ (by rw [ByteArray.size_append]; omega)
 have o1 : Okn a := ⟨h1, h2⟩
 have o2 : Okn (b.size : Int) := ⟨by omega, by omega⟩
 unfold aT
 simp only
 clear h h1 h2 l1 l2
 obtain ⟨x1, x2, x3, x4⟩ := iC w a b 124
 go_enter Tryz.func168, Tryz.ntmps168
 go_wp2_with (go_at_call 79; refine (hc _).mono ?_; rintro e w1 ⟨rfl, hk⟩)
 have y1 := x1.trans (hk.mono x1.size)
 have y2 := Nat.lt_of_lt_of_le x2 hk.size
 have y3 := (hk.cell (p := ⟨w.heap.size, 0, none⟩) x2).trans x3
 have y4 := (hk.cell (p := ⟨w.heap.size, 1, none⟩) x2).trans x4
 clear x1 x2 x3 x4 hk
 go_region_held3 (fun W => W.cell? ⟨w.heap.size, 0, none⟩ = some (.int .i64 a) ∧ W.cell? ⟨w.heap.size, 1, none⟩ = some (.string b) ∧ w.heap.size < W.heap.size ∧ Below w.heap.size w W) (first | exact keepB (by assumption) (by assumption) | exact startB w _ a b 124 y1 y2 y3 y4)
  (first | (go_at_call 75; refine (bytes_ok _ _ (by assumption)).mono ?_; rintro e w' ⟨rfl, hb2⟩))
 obtain ⟨_, _, _, hbelW⟩ := ‹_ ∧ _ ∧ _ ∧ Below w.heap.size w _›
 go_wp2
 go_ret2
 exact ⟨rfl, hbelW⟩
theorem kbytes_bad (x : Ky) (w : World) (h : ¬ x.2.size ≤ 64) :
  Calls Tryz.prog 168 #[.agg #[.int .i64 x.1, .string x.2]] w fun e w' => e = .returned (.tuple #[.string ⟨#[]⟩, .int .i64 1]) ∧ Below w.heap.size w w' := by
 obtain ⟨a, b⟩ := x
 have hc := fun W => eH (a, b) W
 simp only at h
 simp only [h, if_false] at hc
 obtain ⟨x1, x2, x3, x4⟩ := iC w a b 124
 go_enter Tryz.func168, Tryz.ntmps168
 go_wp2_with (go_at_call 79; refine (hc _).mono ?_; rintro e w1 ⟨rfl, hk⟩)
 go_ret2
 exact ⟨rfl, x1.trans (hk.mono x1.size)⟩
theorem iR {a b c a' b' c' : Int} {t : Int × Int × Int} (h : t = (a', b', c')) (h1 : a = a') (h2 : b = b') (h3 : c = c') :
  Ending.returned (.tuple #[.int .i64 a, .int .i64 b, .int .i64 c]) = .returned (.tuple #[.int .i64 t.1, .int .i64 t.2.1, .int .i64 t.2.2]) := by rw [h, h1, h2, h3]
theorem mm (s : ByteArray) (w : World) (hs : s.size ≤ maxLen) :
  Calls Tryz.prog 82 #[.string s] w fun e w' => e = .returned (.tuple #[.int .i64 (ai s).1, .int .i64 (ai s).2.1, .int .i64 (ai s).2.2]) ∧ w' = w := by
 unfold maxLen at hs
 go_enter Tryz.func82, Tryz.ntmps82
 go_wp2
 go_loop [5, 10] (fun u i => ∃ (k : Nat) (x : Int), k ≤ s.size ∧ k ≤ 9 ∧ i = .int .i64 k ∧ u = .int .u64 x ∧ 0 ≤ x ∧ Hid (x < 2 ^ (7 * k)) ∧ Hid (ai s = dx (s.data.toList.drop k) k x)) (fun _ i => s.size - (intOf i).toNat)
 case atStart => exact ⟨0, 0, by omega, by omega, rfl, rfl, by omega, by unfold Hid; decide, rfl⟩
 case round =>
  obtain ⟨k, x, hk, hk9, rfl, rfl, hx0, HX, HT⟩ := hrel
  by_cases hlt : k < s.size
  ·have hc1 : s[k].toNat < 256 := s[k].toNat_lt
   have hd := dy s k hlt
   by_cases h9 : k = 9 ∧ 1 < s[k].toNat
   ·obtain ⟨h9, hb⟩ := h9
    have HE : Hid (ai s = (0, 0, 7)) := by rw [HT.out, hd]; exact iN _ _ _ _ h9 hb
    have h9' : 9 ≤ k := by omega
    clear h9 hd HT HX
    go_wp2
    go_ret3
    exact ⟨iR HE.out rfl rfl rfl, rfl⟩
   ·obtain ⟨ho, hl0, hl1, hl2⟩ := or_step k x s[k].toNat hx0 HX.out (by omega) (by omega) (by omega)
    by_cases hb : 128 ≤ s[k].toNat
    ·have HE : Hid (ai s = dx (s.data.toList.drop (k + 1)) (k + 1) (x + (s[k].toNat : Int) % 128 * 2 ^ (7 * k))) := by rw [HT.out, hd]; exact iO _ _ _ _ (by omega) hb
     have HX2 : Hid (x + (s[k].toNat : Int) % 128 * 2 ^ (7 * k) < 2 ^ (7 * (k + 1))) := hl2 (by omega)
     have h8 : k ≤ 8 := by omega
     have HO : Hid (_ = _) := ho
     clear ho hd HT HX hl2 hl1 h9
     go_wp2
     go_round
     case rel => exact ⟨k + 1, _, by omega, by omega, by go_num, by rw [HO.out], hl0, HX2, HE⟩
     case measure => simp [intOf]; omega
    ·have hb' : s[k].toNat < 128 := by omega
     by_cases hz : s[k].toNat = 0 ∧ 0 < k
     ·obtain ⟨hz, hk0⟩ := hz
      have HE : Hid (ai s = (0, 0, 7)) := by rw [HT.out, hd]; exact iP _ _ _ _ hk0 hz
      have hz' : s[k].toNat ≤ 0 := by omega
      have hk0' : (0 : Int) < k := by omega
      clear ho hd HT HX hl2 hl1 h9 hz hb
      go_wp2
      all_goals
       go_ret3
       exact ⟨iR HE.out rfl rfl rfl, rfl⟩
     ·have HE : Hid (ai s = (ku (x + (s[k].toNat : Int) % 128 * 2 ^ (7 * k)), (k : Int) + 1, 0)) := by rw [HT.out, hd]; exact kw _ _ _ _ (by omega) hb' (by omega)
      have HO : Hid (_ = _) := ho
      clear ho hd HT HX hl2 hb
      by_cases h9e : k = 9
      ·have hq : 9 ≤ k := by omega
       have hc : (s[k].toNat : Int) ≤ 1 := by omega
       have hz0 : ((s[k].toNat : Int) == 0) = false := by simp; omega
       have HO9 : Hid (bits .or .u64 x (IntKind.u64.wrap (IntKind.u64.wrap (bits .andNot .u8 (s[k].toNat : Int) 128) * 9223372036854775808)) = x + (s[k].toNat : Int) % 128 * 2 ^ (7 * k)) := by
        unfold Hid
        rw [show (9223372036854775808 : Int) = 2 ^ (7 * k) by rw [h9e]; rfl]
        exact HO.out
       clear h9 hz h9e HO
       go_wp2_with (go_at_call 126; rw [HO9.out]; refine (fT _ _ hl0 hl1).mono ?_; rintro e w' ⟨rfl, rfl⟩)
       go_ret3
       exact ⟨iR HE.out rfl (by omega) rfl, rfl⟩
      ·have hq : ((k : Int) == 9) = false := by simp; omega
       by_cases hz1 : s[k].toNat = 0
       ·have hz0 : ((s[k].toNat : Int) == 0) = true := by simp; omega
        have hk0 : (k : Int) ≤ 0 := by omega
        clear h9 hz h9e hz1
        go_wp2_with (go_at_call 126; rw [HO.out]; refine (fT _ _ hl0 hl1).mono ?_; rintro e w' ⟨rfl, rfl⟩)
        go_ret3
        exact ⟨iR HE.out rfl rfl rfl, rfl⟩
       ·have hz0 : ((s[k].toNat : Int) == 0) = false := by simp; omega
        clear h9 hz h9e hz1
        go_wp2_with (go_at_call 126; rw [HO.out]; refine (fT _ _ hl0 hl1).mono ?_; rintro e w' ⟨rfl, rfl⟩)
        go_ret3
        exact ⟨iR HE.out rfl rfl rfl, rfl⟩
  ·have HE : Hid (ai s = (0, 0, 6)) := by rw [HT.out, drop_end s k (by omega)]; exact nX _ _
   clear HT HX
   go_wp2
   go_ret3
   exact ⟨iR HE.out rfl rfl rfl, rfl⟩
end Go.Proofs.YtclcgakfmcofaaaGreatDoor
namespace Go.Proofs.YtclcgakfmcofaaaGreatDoor
variable {H : Type} {P : Program}
def fb (P : Program) (t : TypeId) (d : DataW H) : Prop := ∀ n ∈ d.weights P t, n ≤ reachBytes
theorem nI {ts : List TypeId} {ds : List (DataW H)} (h : (DataW.weightsEach P ts ds).all (· ≤ reachBytes) = true) {j : Nat} {t : TypeId} {d : DataW H} (ht : ts[j]? = some t) (hd : ds[j]? = some d) : fb P t d := fun n hn => by
 have := List.all_eq_true.1 h n (DataW.weights_mem_each ht hd n hn)
 simpa using this
theorem cD {t : TypeId} {fs : Array Field} {ds : List (DataW H)} (ht : P.underlying t = some (.struct fs)) (h : fb P t (.agg ds)) {j : Nat} {u : TypeId} {d : DataW H} (hu : (fs.toList.map (·.type))[j]? = some u) (hd : ds[j]? = some d) : fb P u d := fun n hn =>
 h n (by simp only [DataW.weights, ht]; exact DataW.weights_mem_each hu hd n hn)
theorem kY {e : TypeId} : ∀ {ds : List (DataW H)} {d : DataW H}, d ∈ ds → ∀ n ∈ d.weights P e, n ∈ DataW.weightsAll P e ds
 | x :: ds, d, h, n, hn => by
  simp only [DataW.weightsAll, List.mem_append]
  rcases List.mem_cons.1 h with rfl | h
  ·exact .inl hn
  ·exact .inr (kY h n hn)
theorem gI {t e : TypeId} {elems spare : List (DataW H)} (ht : P.underlying t = some (.slice e)) (h : fb P t (.slice elems spare)) : (elems.length + spare.length) * P.bytesOf e ≤ reachBytes ∧ ∀ d ∈ elems, fb P e d :=
 ⟨h _ (by simp [DataW.weights, ht]), fun d hd n hn => h n (by simp only [DataW.weights, ht, List.mem_cons, List.mem_append]; exact .inr (.inl (kY hd n hn)))⟩
theorem fU {t : TypeId} {s : ByteArray} (h : fb P t (.lit (.string s.data.toList) : DataW H)) : s.size ≤ reachBytes := h _ (by simp [DataW.weights])
end Go.Proofs.YtclcgakfmcofaaaGreatDoor
namespace Go.Proofs.YtclcgakfmcofaaaGreatDoor
open Go.RowKit
theorem Tryz.cellsKey : Tryz.prog.cellsOf 124 = 2 := by kernel_rfl
structure Wr (x : Rc) : Prop where
 k1 : -9223372036854775808 ≤ x.1.1
 k2 : x.1.1 ≤ 9223372036854775807
 txt : x.1.2.size ≤ 140737488351232
 v1 : -9223372036854775808 ≤ x.2
 v2 : x.2 ≤ 9223372036854775807
def Wf (l : List Rc) : Prop := ∀ x ∈ l, Wr x
def kx (w : World) (b off : Nat) (l : List Rc) : Prop :=
 ∀ i x, l[i]? = some x → w.cell? ⟨b, off + i * 3, none⟩ = some (.int .i64 x.1.1) ∧ w.cell? ⟨b, off + i * 3 + 1, none⟩ = some (.string x.1.2) ∧ w.cell? ⟨b, off + i * 3 + 2, none⟩ = some (.int .i64 x.2)
def RS (w : World) (v : Value) (l : List Rc) : Prop :=
 ∃ a cap, v = .slice a l.length cap ∧ (l = [] ∨ ∃ b off, a = some ⟨b, off, none⟩ ∧ b < w.heap.size ∧ kx w b off l)
theorem kx.below {w w' : World} {b off B : Nat} {l : List Rc} (h : kx w b off l) (hb : Below B w w') (hlt : b < B) : kx w' b off l := fun i x hx =>
 ⟨(hb.cell (p := ⟨b, off + i * 3, none⟩) hlt).trans (h i x hx).1, (hb.cell (p := ⟨b, off + i * 3 + 1, none⟩) hlt).trans (h i x hx).2.1, (hb.cell (p := ⟨b, off + i * 3 + 2, none⟩) hlt).trans (h i x hx).2.2⟩
theorem RS.below {w w' : World} {v : Value} {l : List Rc} (h : RS w v l) (hb : Below w.heap.size w w') : RS w' v l := by
 obtain ⟨a, cap, rfl, h⟩ := h
 refine ⟨a, cap, rfl, ?_⟩
 rcases h with h | ⟨b, off, rfl, hlt, h⟩
 ·exact .inl h
 ·exact .inr ⟨b, off, rfl, Nat.lt_of_lt_of_le hlt hb.size, h.below hb hlt⟩
theorem RS.shape {w : World} {v : Value} {l : List Rc} (h : RS w v l) : (∃ a cap, v = .slice a 0 cap ∧ l = []) ∨ ∃ b off cap, v = .slice (some ⟨b, off, none⟩) l.length cap ∧ b < w.heap.size ∧ kx w b off l := by
 obtain ⟨a, cap, rfl, h⟩ := h
 rcases h with rfl | ⟨b, off, rfl, hb, hat⟩
 ·exact .inl ⟨a, cap, rfl, rfl⟩
 ·exact .inr ⟨b, off, cap, rfl, hb, hat⟩
abbrev aP (l : List Rc) : List Value := l.flatMap jy
theorem flat_len (l : List Rc) : (aP l).length = l.length * 3 := by
 induction l with
 | nil => rfl
 | cons a l ih => simp [aP, jy] at ih ⊢; omega
theorem flat_get : ∀ (l : List Rc) (i : Nat) (x : Rc), l[i]? = some x → (aP l)[i * 3]? = some (.int .i64 x.1.1) ∧ (aP l)[i * 3 + 1]? = some (.string x.1.2) ∧ (aP l)[i * 3 + 2]? = some (.int .i64 x.2)
 | [], i, x, h => by simp at h
 | a :: l, 0, x, h => by simp at h; subst h; simp [aP, jy]
 | a :: l, i + 1, x, h => by
  simp at h
  have := flat_get l i x h
  simp only [aP, List.flatMap_cons, jy] at this ⊢
  have e : (i + 1) * 3 = i * 3 + 1 + 1 + 1 := by omega
  rw [e]
  simpa using this
theorem mn (l m : List Rc) : aP (l ++ m) = aP l ++ aP m := by simp [aP]
theorem flat_one (x : Rc) : aP [x] = [.int .i64 x.1.1, .string x.1.2, .int .i64 x.2] := rfl
theorem lM {w : World} {g : Nat} {cur : Array Value} {e : TypeId} {l : List Rc} (hb : w.heap[g]? = some (.cells cur e (0, 0))) (ht : cur.toList.take (l.length * 3) = aP l) : kx w g 0 l := by
 intro i x hx
 have hi : i < l.length := (List.getElem?_eq_some_iff.1 hx).1
 obtain ⟨h0, h1, h2⟩ := flat_get l i x hx
 rw [← ht, List.getElem?_take_of_lt (by omega)] at h0 h1 h2
 refine ⟨?_, ?_, ?_⟩
 ·simp only [World.cell?, hb, Nat.zero_add]
  simpa using h0
 ·simp only [World.cell?, hb, Nat.zero_add]
  simpa using h1
 ·simp only [World.cell?, hb, Nat.zero_add]
  simpa using h2
abbrev bq (w : World) (base : Nat) (v : Value) (l : List Rc) : Prop := w.ownsRow base 155 3 v l.length (aP l)
theorem RS.own {w : World} {base : Nat} {v : Value} {l : List Rc} (h : bq w base v l) : RS w v l := by
 rcases h.2 with ⟨rfl, h0⟩ | ⟨g, cap, cur, rfl, _, hb, _, _, _, ht⟩
 ·have : l = [] := List.length_eq_zero_iff.1 h0
  subst this
  exact ⟨none, 0, rfl, .inl rfl⟩
 ·exact ⟨_, cap, rfl, .inr ⟨g, 0, rfl, (Array.getElem?_eq_some_iff.1 hb).1, lM hb ht⟩⟩
theorem bq.below {w w' : World} {base : Nat} {v : Value} {l : List Rc} (h : bq w base v l) (hb : Below w.heap.size w w') : bq w' base v l := by
 refine ⟨h.1, ?_⟩
 rcases h.2 with ⟨h1, h2⟩ | ⟨g, cap, cur, h1, h2, h3, h4⟩
 ·exact .inl ⟨h1, h2⟩
 ·exact .inr ⟨g, cap, cur, h1, h2, by rw [hb.block g (Array.getElem?_eq_some_iff.1 h3).1]; exact h3, h4⟩
theorem bq.snoc {w : World} {base n : Nat} {v : Value} {l : List Rc} {x : Rc} (h : w.ownsRow base 155 3 v (n + 1) (aP l ++ [.int .i64 x.1.1, .string x.1.2, .int .i64 x.2])) (hn : n = l.length) : bq w base v (l ++ [x]) := by
 subst hn
 have : aP (l ++ [x]) = aP l ++ [.int .i64 x.1.1, .string x.1.2, .int .i64 x.2] := by rw [mn, flat_one]
 unfold bq
 rw [this, List.length_append]
 exact h
theorem Tryz.infoRec : (Tryz.prog.info? 155).map (fun i => (i.zero, i.size, i.bytes)) = some (some (.agg #[.int .i64 0, .string ⟨#[]⟩, .int .i64 0]), 3, 32) := by kernel_rfl
theorem dA (a : Int) (b : ByteArray) (v : Int) : ∀ u ∈ [Value.int .i64 a, .string b, .int .i64 v], u.oneCell' = true := by
 intro u hu
 simp only [List.mem_cons, List.not_mem_nil, or_false] at hu
 rcases hu with rfl | rfl | rfl <;> rfl
theorem Tryz.infoRow : (Tryz.prog.info? 129).map (fun i => (i.zero, i.size, i.bytes)) = some (some (.agg #[.int .i64 0, .string ⟨#[]⟩, .int .i64 0, .slice none 0 0]), 4, 56) := by kernel_rfl
abbrev Sl := Option Addr × Nat × Nat
abbrev dD (s : Sl) : Value := .slice s.1 s.2.1 s.2.2
abbrev dE (n : Int) (s : Sl) : Value := .agg #[.int .i64 n, dD s]
abbrev cW := Ky × Int × Sl
def cj (x : cW) : List Value := [.int .i64 x.1.1, .string x.1.2, .int .i64 x.2.1, dD x.2.2]
abbrev aw (l : List cW) : List Value := l.flatMap cj
theorem eA (l : List cW) : (aw l).length = l.length * 4 := by
 induction l with
 | nil => rfl
 | cons a l ih => simp [aw, cj] at ih ⊢; omega
theorem ky (l m : List cW) : aw (l ++ m) = aw l ++ aw m := by simp [aw]
theorem flatW_one (x : cW) : aw [x] = [.int .i64 x.1.1, .string x.1.2, .int .i64 x.2.1, dD x.2.2] := rfl
theorem fD : ∀ (l : List cW) (i : Nat) (x : cW), l[i]? = some x → (aw l)[i * 4]? = some (.int .i64 x.1.1) ∧ (aw l)[i * 4 + 1]? = some (.string x.1.2) ∧ (aw l)[i * 4 + 2]? = some (.int .i64 x.2.1) ∧ (aw l)[i * 4 + 3]? = some (dD x.2.2)
 | [], i, x, h => by simp at h
 | a :: l, 0, x, h => by simp at h; subst h; simp [aw, cj]
 | a :: l, i + 1, x, h => by
  simp at h
  have := fD l i x h
  simp only [aw, List.flatMap_cons, cj] at this ⊢
  have e : (i + 1) * 4 = i * 4 + 1 + 1 + 1 + 1 := by omega
  rw [e]
  simpa using this
theorem kz (x : cW) : ∀ u ∈ cj x, u.oneCell' = true := by
 intro u hu
 simp only [cj, List.mem_cons, List.not_mem_nil, or_false] at hu
 rcases hu with rfl | rfl | rfl | rfl <;> rfl
theorem flatW_cell (l : List cW) : ∀ u ∈ aw l, u.oneCell' = true := by
 intro u hu
 simp only [aw, List.mem_flatMap] at hu
 obtain ⟨x, _, hx⟩ := hu
 exact kz x u hx
structure dR (w w' : World) : Prop where
 size : w.heap.size ≤ w'.heap.size
 row : ∀ (g : Nat) (cur : Array Value), w.heap[g]? = some (.cells cur 2 (0, 0)) → w'.heap[g]? = some (.cells cur 2 (0, 0))
theorem dR.refl (w : World) : dR w w := ⟨Nat.le_refl _, fun _ _ h => h⟩
theorem dR.below {w w' : World} (h : Below w.heap.size w w') : dR w w' := ⟨h.size, fun g cur hg => by rw [h.block g (Array.getElem?_eq_some_iff.1 hg).1]; exact hg⟩
theorem dR.grown {w w' : World} {r : Option Nat} (h : w.grownBy w' r) (hr : ∀ (g : Nat) (cur : Array Value), r = some g → w.heap[g]? ≠ some (.cells cur 2 (0, 0))) : dR w w' :=
 ⟨h.size, fun g cur hg => (h.block g (Array.getElem?_eq_some_iff.1 hg).1 (fun e => hr g cur e.symm hg)).trans hg⟩
theorem ay.keep {w w' : World} {base : Nat} {v : Value} {l : List Int} (h : ay w base v l) (k : dR w w') : ay w' base v l := by
 refine ⟨h.1, ?_⟩
 rcases h.2 with ⟨h1, h2⟩ | ⟨g, cap, cur, h1, h2, h3, h4⟩
 ·exact .inl ⟨h1, h2⟩
 ·exact .inr ⟨g, cap, cur, h1, h2, k.row g cur h3, h4⟩
structure IsW (w : World) (base : Nat) (x : cW) (r : Rw) : Prop where
 k : x.1 = r.1
 n : x.2.1 = r.2.1
 s : ay w base (dD x.2.2) r.2.2
theorem IsW.keep {w w' : World} {base : Nat} {x : cW} {r : Rw} (h : IsW w base x r) (k : dR w w') : IsW w' base x r := ⟨h.k, h.n, h.s.keep k⟩
theorem IsW.lower {w : World} {base base' : Nat} {x : cW} {r : Rw} (h : IsW w base x r) (hb : base' ≤ base) : IsW w base' x r := ⟨h.k, h.n, h.s.lower hb⟩
def ck (w : World) (base : Nat) (xs : List cW) (l : List Rw) : Prop := xs.length = l.length ∧ ∀ (i : Nat) (x : cW) (r : Rw), xs[i]? = some x → l[i]? = some r → IsW w base x r
theorem ck.nil (w : World) (base : Nat) : ck w base [] [] := ⟨rfl, fun i x r h => by simp at h⟩
theorem ck.keep {w w' : World} {base : Nat} {xs : List cW} {l : List Rw} (h : ck w base xs l) (k : dR w w') : ck w' base xs l := ⟨h.1, fun i x r h1 h2 => (h.2 i x r h1 h2).keep k⟩
theorem ck.lower {w : World} {base base' : Nat} {xs : List cW} {l : List Rw} (h : ck w base xs l) (hb : base' ≤ base) : ck w base' xs l := ⟨h.1, fun i x r h1 h2 => (h.2 i x r h1 h2).lower hb⟩
theorem ck.snoc {w : World} {base : Nat} {xs : List cW} {l : List Rw} {x : cW} {r : Rw} (h : ck w base xs l) (k : IsW w base x r) : ck w base (xs ++ [x]) (l ++ [r]) := by
 refine ⟨by simp [h.1], fun i y s h1 h2 => ?_⟩
 by_cases hi : i < xs.length
 ·rw [List.getElem?_append_left hi] at h1
  rw [List.getElem?_append_left (h.1 ▸ hi)] at h2
  exact h.2 i y s h1 h2
 ·rw [List.getElem?_append_right (by omega)] at h1
  rw [List.getElem?_append_right (by have := h.1; omega)] at h2
  have e : i - xs.length = 0 := by
   have := (List.getElem?_eq_some_iff.1 h1).1
   simp at this
   omega
  rw [e] at h1
  rw [← h.1, e] at h2
  simp at h1 h2
  subst h1 h2
  exact k
abbrev bh (w : World) (base : Nat) (v : Value) (xs : List cW) : Prop := w.ownsRow base 129 4 v xs.length (aw xs)
def aQ (w : World) (base : Nat) (v : Value) (l : List Rw) : Prop := ∃ xs, bh w base v xs ∧ ck w base xs l
theorem bh.below {w w' : World} {base : Nat} {v : Value} {xs : List cW} (h : bh w base v xs) (hb : Below w.heap.size w w') : bh w' base v xs := by
 refine ⟨h.1, ?_⟩
 rcases h.2 with ⟨h1, h2⟩ | ⟨g, cap, cur, h1, h2, h3, h4⟩
 ·exact .inl ⟨h1, h2⟩
 ·exact .inr ⟨g, cap, cur, h1, h2, by rw [hb.block g (Array.getElem?_eq_some_iff.1 h3).1]; exact h3, h4⟩
theorem bh.lower {w : World} {base base' : Nat} {v : Value} {xs : List cW} (h : bh w base v xs) (hb : base' ≤ base) : bh w base' v xs := by
 refine ⟨h.1, ?_⟩
 rcases h.2 with ⟨h1, h2⟩ | ⟨g, cap, cur, h1, h2, h3, h4⟩
 ·exact .inl ⟨h1, h2⟩
 ·exact .inr ⟨g, cap, cur, h1, by omega, h3, h4⟩
theorem bh.snoc {w : World} {base n : Nat} {v : Value} {l : List cW} {x : cW} (h : w.ownsRow base 129 4 v (n + 1) (aw l ++ [.int .i64 x.1.1, .string x.1.2, .int .i64 x.2.1, dD x.2.2])) (hn : n = l.length) : bh w base v (l ++ [x]) := by
 subst hn
 have : aw (l ++ [x]) = aw l ++ [.int .i64 x.1.1, .string x.1.2, .int .i64 x.2.1, dD x.2.2] := by rw [ky, flatW_one]
 unfold bh
 rw [this, List.length_append]
 exact h
theorem aQ.below {w w' : World} {base : Nat} {v : Value} {l : List Rw} (h : aQ w base v l) (hb : Below w.heap.size w w') : aQ w' base v l := by
 obtain ⟨xs, h1, h2⟩ := h
 exact ⟨xs, h1.below hb, h2.keep (.below hb)⟩
theorem aQ.lower {w : World} {base base' : Nat} {v : Value} {l : List Rw} (h : aQ w base v l) (hb : base' ≤ base) : aQ w base' v l := by
 obtain ⟨xs, h1, h2⟩ := h
 exact ⟨xs, h1.lower hb, h2.lower hb⟩
theorem aQ.nil (w : World) (base : Nat) : aQ w base (.slice none 0 0) [] := ⟨[], World.ownsRow_nil _ _ _ _, ck.nil _ _⟩
def iD : Value → Prop
 | .slice _ n c => n ≤ c
 | _ => True
def RowAtW (w : World) (b o : Nat) (r : Rw) : Prop := w.cell? ⟨b, o, none⟩ = some (.int .i64 r.1.1) ∧ w.cell? ⟨b, o + 1, none⟩ = some (.string r.1.2) ∧ w.cell? ⟨b, o + 2, none⟩ = some (.int .i64 r.2.1) ∧
  ∃ a cap, w.cell? ⟨b, o + 3, none⟩ = some (.slice a r.2.2.length cap) ∧ NS w (.slice a r.2.2.length cap) r.2.2
def mq (w : World) (b off : Nat) (l : List Rw) : Prop := ∀ (i : Nat) (r : Rw), l[i]? = some r → RowAtW w b (off + i * 4) r
def WS (w : World) (v : Value) (l : List Rw) : Prop := ∃ a cap, v = .slice a l.length cap ∧ (l = [] ∨ ∃ b off, a = some ⟨b, off, none⟩ ∧ b < w.heap.size ∧ mq w b off l)
theorem RowAtW.below {w w' : World} {b o : Nat} {r : Rw} (h : RowAtW w b o r) (hb : Below w.heap.size w w') (hlt : b < w.heap.size) : RowAtW w' b o r := by
 obtain ⟨h0, h1, h2, a, cap, h3, h4⟩ := h
 exact ⟨(hb.cell (p := ⟨b, _, none⟩) hlt).trans h0, (hb.cell (p := ⟨b, _, none⟩) hlt).trans h1, (hb.cell (p := ⟨b, _, none⟩) hlt).trans h2, a, cap, (hb.cell (p := ⟨b, _, none⟩) hlt).trans h3, h4.below hb⟩
theorem mq.below {w w' : World} {b off : Nat} {l : List Rw} (h : mq w b off l) (hb : Below w.heap.size w w') (hlt : b < w.heap.size) : mq w' b off l := fun i r hr => (h i r hr).below hb hlt
theorem WS.below {w w' : World} {v : Value} {l : List Rw} (h : WS w v l) (hb : Below w.heap.size w w') : WS w' v l := by
 obtain ⟨a, cap, rfl, h⟩ := h
 refine ⟨a, cap, rfl, ?_⟩
 rcases h with h | ⟨b, off, rfl, hlt, h⟩
 ·exact .inl h
 ·exact .inr ⟨b, off, rfl, Nat.lt_of_lt_of_le hlt hb.size, h.below hb hlt⟩
theorem aQ.at {w : World} {base g : Nat} {cap : Nat} {cur : Array Value} {xs : List cW} {l : List Rw} (hb : w.heap[g]? = some (.cells cur 129 (0, 0))) (ht : cur.toList.take (xs.length * 4) = aw xs) (ha : ck w base xs l) : mq w g 0 l := by
 intro i r hr
 have hi : i < l.length := (List.getElem?_eq_some_iff.1 hr).1
 obtain ⟨x, hx⟩ := ak (l := xs) (i := i) (by rw [ha.1]; exact hi)
 obtain ⟨h0, h1, h2, h3⟩ := fD xs i x hx
 have hi' : i < xs.length := by rw [ha.1]; exact hi
 rw [← ht, List.getElem?_take_of_lt (by omega)] at h0 h1 h2 h3
 obtain ⟨ek, en, es⟩ := ha.2 i x r hx hr
 obtain ⟨a, cap', es', -⟩ := id (ay.ns es)
 have hc : ∀ o u, cur.toList[o]? = some u → w.cell? ⟨g, o, none⟩ = some u := fun o u hu => by
  simp only [World.cell?, hb]
  simpa using hu
 refine ⟨?_, ?_, ?_, a, cap', ?_, ?_⟩
 ·rw [← ek]; exact hc _ _ (by rw [Nat.zero_add]; exact h0)
 ·rw [← ek]; exact hc _ _ (by rw [Nat.zero_add]; exact h1)
 ·rw [← en]; exact hc _ _ (by rw [Nat.zero_add]; exact h2)
 ·rw [← es']; exact hc _ _ (by rw [Nat.zero_add]; exact h3)
 ·rw [← es']; exact ay.ns es
theorem aQ.ws {w : World} {base : Nat} {v : Value} {l : List Rw} (h : aQ w base v l) : WS w v l := by
 obtain ⟨xs, hx, ha⟩ := h
 rcases hx.2 with ⟨rfl, h0⟩ | ⟨g, cap, cur, rfl, _, hb, _, _, _, ht⟩
 ·have : xs = [] := List.length_eq_zero_iff.1 h0
  subst this
  have : l = [] := List.length_eq_zero_iff.1 ha.1.symm
  subst this
  exact ⟨none, 0, rfl, .inl rfl⟩
 ·exact ⟨_, cap, by rw [ha.1], .inr ⟨g, 0, rfl, (Array.getElem?_eq_some_iff.1 hb).1, aQ.at (cap := cap) hb ht ha⟩⟩
end Go.Proofs.YtclcgakfmcofaaaGreatDoor
namespace Go.Proofs.YtclcgakfmcofaaaGreatDoor
open Go.Maps Go.RowKit
theorem laidOut : laidOutB Tryz.prog = true := by kernel_rfl
theorem Tryz.cells2 : Tryz.prog.cellsOf 2 = 1 := by kernel_rfl
theorem Tryz.cells9 : Tryz.prog.cellsOf 9 = 1 := by kernel_rfl
theorem i64_of_wf {n : Int} (h : (Lit.int .i64 n).wf = true) : -9223372036854775808 ≤ n ∧ n ≤ 9223372036854775807 := by
 simpa [Lit.wf, IntKind.min, IntKind.max, IntKind.signed, IntKind.bits] using h
theorem Tryz.rowKey : (124 : TypeId) < Tryz.prog.types.size := of_decide_eq_true (by kernel_rfl)
theorem Tryz.wideKey : (match Tryz.prog.underlying 124 with | some (.array _ _) | some (.struct _) => true | _ => false) = true := by kernel_rfl
theorem klaw : WideMaps.KeyLaw Tryz.prog 124 := deep_law_laid laidOut (m := 2) (by omega) Tryz.rowKey (by kernel_rfl) Tryz.wideKey
theorem law : Keyed Tryz.prog 124 := Keyed.of_law klaw
theorem Tryz.keyTypeKey : Tryz.prog.keyType 124 = true := by kernel_rfl
theorem Tryz.sizeTypes : ∃ n, Tryz.prog.types.size = n + 1 := by
 have h : (2 : Nat) < Tryz.prog.types.size := Nat.lt_trans (by decide) Tryz.rowKey
 exact ⟨Tryz.prog.types.size - 1, by omega⟩
def eI (x : Ky) : Prop := (-9223372036854775808 ≤ x.1 ∧ x.1 ≤ 9223372036854775807) ∧ x.2.size ≤ maxLen
def ep (x : Ky) : Lit := .string (keyBytes [.int .i64 x.1, .string x.2.data.toList])
theorem wf_i64 {n : Int} (h : -9223372036854775808 ≤ n ∧ n ≤ 9223372036854775807) : (Lit.int .i64 n).wf = true := by
 simpa [Lit.wf, IntKind.min, IntKind.max, IntKind.signed, IntKind.bits] using h
theorem lits (d : Nat) (c0 c1 : Value) : Tryz.prog.keyLits (d + 1) 124 [c0, c1] = ((Tryz.prog.keyLits d 2 [c0]).bind fun a => (Tryz.prog.keyLits d 9 [c1]).bind fun b => some (a ++ b)) := by
 rw [Program.keyLits.eq_def]
 simp only [Tryz.underlying124]
 rw [if_pos ⟨by rw [Tryz.cellsKey]; rfl, by simp⟩]
 simp only [List.mapM_cons, List.mapM_nil, Tryz.cells2, Tryz.cells9]
 cases h1 : Tryz.prog.keyLits d 2 [c0] <;> cases h2 : Tryz.prog.keyLits d 9 [c1] <;> simp [h1, h2]
theorem lit2 (d : Nat) (c : Value) (l : List Lit) : Tryz.prog.keyLits (d + 1) 2 [c] = some l ↔ ∃ a : Int, c = .int .i64 a ∧ (-9223372036854775808 ≤ a ∧ a ≤ 9223372036854775807) ∧ l = [.int .i64 a] := by
 constructor
 ·intro h
  cases c <;> simp [Program.keyLits, Tryz.underlying2] at h
  obtain ⟨⟨rfl, hw⟩, rfl⟩ := h
  exact ⟨_, rfl, i64_of_wf hw, rfl⟩
 ·rintro ⟨a, rfl, ha, rfl⟩
  simp [Program.keyLits, Tryz.underlying2, wf_i64 ha]
theorem lit9 (d : Nat) (c : Value) (l : List Lit) : Tryz.prog.keyLits (d + 1) 9 [c] = some l ↔ ∃ s : ByteArray, c = .string s ∧ s.size ≤ maxLen ∧ l = [.string s.data.toList] := by
 constructor
 ·intro h
  cases c <;> simp [Program.keyLits, Tryz.underlying9] at h
  obtain ⟨hw, rfl⟩ := h
  exact ⟨_, rfl, hw, rfl⟩
 ·rintro ⟨a, rfl, ha, rfl⟩
  simp [Program.keyLits, Tryz.underlying9, ha]
theorem fV {x : Ky} (h : eI x) : keyOf Tryz.prog 124 (.agg #[.int .i64 x.1, .string x.2]) = some (ep x) := by
 obtain ⟨n, hn⟩ := Tryz.sizeTypes
 have h1 := (lit2 n (.int .i64 x.1) _).2 ⟨x.1, rfl, h.1, rfl⟩
 have h2 := (lit9 n (.string x.2) _).2 ⟨x.2, rfl, h.2, rfl⟩
 have hf : (Value.agg #[.int .i64 x.1, .string x.2]).formed Tryz.prog 124 = true := by simp [Value.formed, Tryz.underlying124, Tryz.cellsKey]
 unfold keyOf
 simp only [Tryz.underlying124, Tryz.keyTypeKey, hf, Bool.and_self, if_true]
 rw [show (Value.agg #[.int .i64 x.1, .string x.2]).cells.toList = [.int .i64 x.1, .string x.2] from rfl, hn, lits, h1, h2]
 rfl
theorem key_inv {v : Value} {l : Lit} (h : keyOf Tryz.prog 124 v = some l) : ∃ x : Ky, v = .agg #[.int .i64 x.1, .string x.2] ∧ l = ep x ∧ eI x := by
 obtain ⟨xs, L, rfl, hL, rfl⟩ := keyOf_top Tryz.wideKey h
 have hlen : xs.toList.length = 2 := by
  rw [Program.keyLits.eq_def] at hL
  simp only [Tryz.underlying124] at hL
  split at hL
  ·rename_i hc
   rw [hc.1, Tryz.cellsKey]
  ·cases hL
 obtain ⟨n, hn⟩ := Tryz.sizeTypes
 obtain ⟨xl⟩ := xs
 match xl, hlen with
 | [c0, c1], _ =>
  have hL' : Tryz.prog.keyLits (Tryz.prog.types.size + 1) 124 [c0, c1] = some L := hL
  rw [hn, lits] at hL'
  cases h1 : Tryz.prog.keyLits (n + 1) 2 [c0] with
  | none => rw [h1] at hL'; cases hL'
  | some l1 =>
   cases h2 : Tryz.prog.keyLits (n + 1) 9 [c1] with
   | none => rw [h1, h2] at hL'; cases hL'
   | some l2 =>
    obtain ⟨a, rfl, ha, rfl⟩ := (lit2 _ _ _).1 h1
    obtain ⟨s, rfl, hs, rfl⟩ := (lit9 _ _ _).1 h2
    rw [h1, h2] at hL'
    injection hL' with hL'
    subst hL'
    exact ⟨(a, s), rfl, rfl, ha, hs⟩
theorem kl_inj {x y : Ky} (hx : eI x) (hy : eI y) (h : ep x = ep y) : x = y := by
 have h1 := fV hx
 have h2 := fV hy
 rw [h] at h1
 have := law.inj h1 h2
 injection this with this
 injection this with this
 injection this with e1 e2
 injection e1 with _ e1
 injection e2 with e2 _
 injection e2 with e2
 exact Prod.ext e1 e2
abbrev iy (x : Ky) : Value := .agg #[.int .i64 x.1, .string x.2]
theorem kl_key (x : Ky) : WideAt.IsKeyLit (ep x) := trivial
theorem kl_same (x : Ky) : (ep x).sameKey (ep x) = true := by simp [ep, Lit.sameKey]
theorem invK (key : Value) (kl : Lit) (h : keyOf Tryz.prog 124 key = some kl) : ∃ x : Ky, key = iy x := by
 obtain ⟨x, hx, _⟩ := key_inv h
 exact ⟨x, hx⟩
theorem key_back {x : Ky} {kl : Lit} (h : keyOf Tryz.prog 124 (iy x) = some kl) : kl = ep x ∧ eI x := by
 obtain ⟨x', e, rfl, hg⟩ := key_inv h
 injection e with e
 injection e with e
 injection e with e1 e2
 injection e1 with _ e1
 injection e2 with e2 _
 injection e2 with e2
 obtain rfl : x = x' := Prod.ext e1 e2
 exact ⟨rfl, hg⟩
def RC (v : Value) : Option (DataW Value × List MemPlace) := some (.held v, [])
theorem invV (v : Value) (y : DataW Value × List MemPlace) (h : RC v = some y) : ∃ c : Value, v = id c := ⟨v, rfl⟩
theorem rc_held {v : Value} {d : DataW Value} {ps : List MemPlace} (h : RC v = some (d, ps)) : d = .held v := by
 injection h with h
 injection h with h _
 exact h.symm
theorem zeroC (w : World) : (zeroValue 127).run Tryz.prog w = .ok (dE 0 (none, 0, 0)) w := by kernel_rfl
abbrev zC : Value := dE 0 (none, 0, 0)
structure gD (w : World) (base : Nat) (D : DataW Value) (st : List Rw) : Prop where
 tidy : Tidy D
 size : Maps.size D = st.length
 non : ∀ x, eI x → aC st x = none → Maps.has D (ep x) = false
 yes : ∀ x c, eI x → aC st x = some c → ∃ s : Sl, (∀ z, D.atKey (ep x) z = .held (dE c.1 s)) ∧ ay w base (dD s) c.2
theorem gD.start (w : World) (base : Nat) : gD w base (.map []) [] := ⟨tidy_empty, rfl, fun x _ _ => by simp [Maps.has], fun x c _ h => by simp [aC] at h⟩
theorem gD.keep {w w' : World} {base : Nat} {D : DataW Value} {st : List Rw} (h : gD w base D st) (k : dR w w') : gD w' base D st :=
 ⟨h.tidy, h.size, h.non, fun x c hx hc => by obtain ⟨s, h1, h2⟩ := h.yes x c hx hc; exact ⟨s, h1, h2.keep k⟩⟩
theorem gD.put {w : World} {base : Nat} {D : DataW Value} {st st' : List Rw} {x : Ky} {c : Cl} {s : Sl} (h : gD w base D st) (hx : eI x) (hs : ay w base (dD s) c.2)
  (hlen : st'.length = if (aC st x).isSome then st.length else st.length + 1) (hl : ∀ y, aC st' y = if y = x then some c else aC st y) : gD w base (D.put (ep x) (.held (dE c.1 s))) st' := by
 have hi := h.tidy.isMap
 have hhas : Maps.has D (ep x) = (aC st x).isSome := by
  cases e : aC st x with
  | none => exact h.non x hx e
  | some d =>
   obtain ⟨s', h1, _⟩ := h.yes x d hx e
   exact has_true_of_atKey h1
 refine ⟨h.tidy.put (kl_key x) _, ?_, fun y hy hn => ?_, fun y d hy hd => ?_⟩
 ·rw [size_put h.tidy, hhas, h.size, hlen]
 ·rw [hl] at hn
  by_cases e : y = x
  ·rw [if_pos e] at hn; cases hn
  ·rw [if_neg e] at hn
   rw [has_put_other (fun e' => e (kl_inj hy hx e'))]
   exact h.non y hy hn
 ·rw [hl] at hd
  by_cases e : y = x
  ·rw [if_pos e] at hd
   injection hd with hd
   subst e hd
   exact ⟨s, fun z => atKey_put_same hi (kl_key y) _ z, hs⟩
  ·rw [if_neg e] at hd
   obtain ⟨s', h1, h2⟩ := h.yes y d hy hd
   exact ⟨s', fun z => by rw [atKey_put_other (fun e' => e (kl_inj hy hx e'))]; exact h1 z, h2⟩
end Go.Proofs.YtclcgakfmcofaaaGreatDoor
