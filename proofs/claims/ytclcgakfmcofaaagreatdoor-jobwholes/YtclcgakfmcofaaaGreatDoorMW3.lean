/- Texts laid together: GSort, GCat. -/
import Derived.Test.YtclcgakfmcofaaaGreatDoorMW2
import Derived.Shelf.SortG.AssemblyIn
import Derived.Shelf.SortG.SortNone
import Derived.Shelf.SlicesE.Compact
import Derived.Shelf.SlGeneric
import Derived.Ground.SlgnProg
import Derived.Sort.EveryDepth
import Derived.Lib.AppendZeros
import Derived.Laws.OwnMore
set_option linter.unusedVariables false
set_option maxRecDepth 100000
set_option maxHeartbeats 800000
namespace Go.Proofs.YtclcgakfmcofaaaGreatDoor
open Go.RowKit Go.Shelf
open Go.Sort (grow putRow putCells Holds)
open Go.Lib (compactUpTo)
shelf_lay_g SlLaysN.n53 Slgn 53 at Tryz 230 as Tryz.sortL
shelf_lay_g SlLaysE.n43 Slgn 43 at Tryz 231 as Tryz.compactL
abbrev lN : Int → Value := Value.int .i64
theorem ig {w : World} {g : Nat} {cur : Array Value} {e : TypeId} {l : List Int} (hb : w.heap[g]? = some (.cells cur e (0, 0))) (ht : cur.toList.take (l.length * 1) = l.map lN) : Holds lN w g 0 l.toArray := by
 intro j hj
 have hj' : j < l.length := by simpa using hj
 refine ⟨?_, by simp [World.frozen?, hb]⟩
 have h1 : (cur.toList.take (l.length * 1))[j]? = (l.map lN)[j]? := by rw [ht]
 rw [List.getElem?_take_of_lt (by omega)] at h1
 simp only [World.cell?, hb, Nat.zero_add]
 simp only [Option.isSome_none, Bool.false_eq_true, if_false]
 rw [← Array.getElem?_toList, h1, fB hj]
 simp [hj']
theorem jF {w : World} {g n : Nat} {os : Array Obj} {cur : Array Value} {e : TypeId} {fr : Nat × Nat} (d : Array Int) (hb : w.heap[g]? = some (.cells cur e fr)) :
  (grow (putRow lN (Go.Sort.ahead w n) g 0 d) os).heap[g]? = some (.cells (putCells lN 0 d cur) e fr) := by
 have hg : g < w.heap.size := (Array.getElem?_eq_some_iff.1 hb).1
 rw [Go.Sort.heap_grow_old _ _ (by simpa using hg)]
 simp [putRow, Go.Sort.mapBlock, Go.Sort.ahead, Array.getElem?_modify, hb, Go.Sort.onCells]
theorem fc {w : World} {g n : Nat} {os : Array Obj} (d : Array Int) : w.grownBy (grow (putRow lN (Go.Sort.ahead w n) g 0 d) os) (some g) := by
 refine ⟨rfl, rfl, rfl, by simp, fun k hk hne => ?_⟩
 rw [Go.Sort.heap_grow_old _ _ (by simpa using hk)]
 have : g ≠ k := fun e => hne (by rw [e])
 simp [putRow, Go.Sort.mapBlock, Go.Sort.ahead, Array.getElem?_modify, this]
theorem jG (cur : Array Value) (ts us : List Int) (h : ts.length + us.length ≤ cur.size) : (putCells lN 0 (ts ++ us).toArray cur).toList.take ts.length = ts.map lN := by
 apply List.ext_getElem?
 intro j
 by_cases hj : j < ts.length
 ·rw [List.getElem?_take_of_lt hj, Array.getElem?_toList]
  simp only [putCells, Array.getElem?_mapIdx]
  have h1 : j < cur.size := by omega
  have h2 : j < (ts ++ us).toArray.size := by simp; omega
  rw [Array.getElem?_eq_getElem h1]
  simp only [Option.map_some, Nat.zero_le, true_and, Nat.zero_add, Nat.sub_zero, if_pos h2]
  rw [fB h2]
  simp [hj]
 ·rw [List.getElem?_take_eq_none (by omega), List.getElem?_eq_none (by simp; omega)]
theorem sort_own (v : Value) (base : Nat) (l : List Int) (w : World) (h : ay w base v l) (hl : l.length ≤ 100000) :
  Calls Tryz.prog 230 #[v] w fun e w' => e = .returned (.tuple #[]) ∧ ay w' base v (l.mergeSort jn) ∧ w.grownBy w' v.ownBlock := by
 rcases h.2 with ⟨rfl, h0⟩ | ⟨g, cap, cur, rfl, hg, hbk, hn, hm, hs, ht⟩
 ·obtain rfl : l = [] := List.length_eq_zero_iff.1 h0
  have hc := AnyG.slices_Sort_int_none Tryz.sortL none 0 w
  exact hc.mono fun e w' ⟨he, hw⟩ => ⟨he, by subst hw; rw [List.mergeSort_nil]; exact ay.nil _ _, by subst hw; exact World.grownBy.refl _ _⟩
 ·have hc := calls_of_every_depth fun D => AnySG.slices_Sort_int_in Tryz.sortL D g 0 cap l w (ig hbk ht) (Array.getElem?_eq_some_iff.1 hbk).1 (by omega)
  change Calls Tryz.prog 230 _ _ _ at hc
  refine hc.mono fun e w' ⟨he, n, os, hw⟩ => ⟨he, ?_, ?_⟩
  ·have hp := (List.mergeSort_perm l jn).length_eq
   subst hw
   refine ⟨by simp, .inr ⟨g, cap, _, by rw [hp], hg, jF _ hbk, by omega, hm, by simp [putCells, hs], ?_⟩⟩
   rw [Nat.mul_one]
   have := jG cur (l.mergeSort jn) [] (by simp only [List.length_nil]; omega)
   rwa [List.append_nil] at this
  ·subst hw
   exact fc _
theorem compact_own (v : Value) (base : Nat) (l : List Int) (w : World) (h : ay w base v l) (hl : l.length ≤ 100000) :
  Calls Tryz.prog 231 #[v] w fun e w' => (∃ v', e = .returned v' ∧ ay w' base v' (compactUpTo l.toArray l.toArray.size) ∧ v'.ownBlock = v.ownBlock) ∧ w.grownBy w' v.ownBlock := by
 rcases h.2 with ⟨rfl, h0⟩ | ⟨g, cap, cur, rfl, hg, hbk, hn, hm, hs, ht⟩
 ·obtain rfl : l = [] := List.length_eq_zero_iff.1 h0
  go_enter Tryz.func231, Tryz.ntmps231
  go_wp2
  go_ret
  exact ⟨⟨_, rfl, ay.nil _ _, rfl⟩, World.grownBy.refl _ _⟩
 ·have hc := AnyE.slices_Compact Tryz.compactL lN (fun _ => rfl) (EqlAt.intD _ _ .i64) (NeqAt.intD _ _ .i64) 0 Tryz.zeroValue2 g 0 cap l.toArray w (ig hbk ht) (by simp; omega) (by simpa using hn)
  change Calls Tryz.prog 231 _ _ _ at hc
  have hc' : Calls Tryz.prog 231 #[.slice (some ⟨g, 0, none⟩) l.length cap] w _ := hc
  refine hc'.mono fun e w' ⟨he, q, hw⟩ => ⟨⟨_, he, ?_, rfl⟩, ?_⟩
  ·have hle : (compactUpTo l.toArray l.toArray.size).length ≤ l.length := by
    have := List.length_filter_le (Go.Lib.keeps l.toArray) (List.range l.toArray.size)
    unfold compactUpTo
    simpa using this
   have hw' : w' = grow (putRow lN (Go.Sort.ahead w q) g 0 (compactUpTo l.toArray l.toArray.size ++ List.replicate (l.toArray.size - (compactUpTo l.toArray l.toArray.size).length) 0).toArray) #[] := by rw [hw, Go.Sort.grow_empty]
   subst hw'
   generalize compactUpTo l.toArray l.toArray.size = ts at *
   refine ⟨by simp, .inr ⟨g, cap, _, rfl, hg, jF _ hbk, by omega, hm, by simp [putCells, hs], ?_⟩⟩
   rw [Nat.mul_one]
   exact jG cur ts _ (by rw [List.length_replicate, List.size_toArray]; omega)
  ·rw [← Go.Sort.grow_empty w', hw]
   exact fc _
end Go.Proofs.YtclcgakfmcofaaaGreatDoor
namespace Go.Proofs.YtclcgakfmcofaaaGreatDoor
open Go.RowKit
theorem ii {W : World} {base : Nat} {v u : Value} {l m : List Int} (ty : TypeId) (hown : ay W base v l) (hns : NS W u m) (hl : l.length + m.length ≤ 1000000) (hb : base ≤ W.heap.size) :
  ∃ v' W', (Builtin.append_ #[125, 125] ty #[v, u]).run Tryz.prog W = .ok v' W' ∧ ay W' base v' (l ++ m) ∧ W.grownBy W' v.ownBlock ∧ (v'.ownBlock = v.ownBlock ∨ v'.ownBlock = some W.heap.size) := by
 obtain ⟨i0, hi, hz0, hz1, hz2⟩ := info_parts Tryz.info2
 obtain ⟨a, cap, rfl, h⟩ := hns
 have go : ∀ (ad : Addr) (news : List Value), news = m.map (Value.int .i64) → (∀ j u, news[j]? = some u → W.cell? (ad.add j) = some u) → ∃ v' W', (Builtin.append_ #[125, 125] ty #[v, .slice (some ad) m.length cap]).run Tryz.prog W = .ok v' W' ∧ ay W' base v' (l ++ m) ∧ W.grownBy W' v.ownBlock ∧ (v'.ownBlock = v.ownBlock ∨ v'.ownBlock = some W.heap.size) := by
  intro ad news hn hc
  obtain ⟨v', w', hr, h2, h3, _, h5⟩ := run_append_own_at (P := Tryz.prog) W base 125 ty 2 i0 _ 1 8 Tryz.underlying125 hi hz0 hz1 hz2 rfl (by decide) v l.length (l.map (Value.int .i64)) hown ad m.length cap news (by subst hn; simp) hc (by subst hn; intro u hu; obtain ⟨x, _, rfl⟩ := List.mem_map.1 hu; rfl) (by unfold maxLen; omega) (by omega) hb
  refine ⟨v', w', hr, ?_, h3, h5⟩
  subst hn
  unfold ay
  rw [List.map_append, List.length_append]
  exact h2
 rcases h with rfl | ⟨b, off, rfl, hb, hat⟩
 ·cases a with
  | none =>
   refine ⟨v, W, ?_, by rw [List.append_nil]; exact hown, World.grownBy.refl _ _, .inl rfl⟩
   rcases hown.2 with ⟨rfl, h0⟩ | ⟨g, cap', cur, rfl, _, _, hnc, _⟩
   ·simp [Builtin.append_, run_underlying Tryz.underlying125, sizeOf, typeInfo, hi, Builtin.lenOf, Builtin.firstCells]
   ·simp [Builtin.append_, run_underlying Tryz.underlying125, sizeOf, typeInfo, hi, Builtin.lenOf, Builtin.firstCells, hnc, storeCells]
  | some ad => exact go ad [] rfl (fun j u hj => by simp at hj)
 ·refine go ⟨b, off, none⟩ _ rfl fun j u hj => ?_
  rw [Addr.add_lit]
  rw [List.getElem?_map] at hj
  cases hm : m[j]? with
  | none => rw [hm] at hj; cases hj
  | some x =>
   rw [hm] at hj
   injection hj with hj
   subst hj
   exact hat j x hm
theorem grow_any (n : Nat) (w : World) (hn : n ≤ 200000) : Calls Tryz.prog 252 #[.slice none 0 0, .int .i64 (n : Int)] w fun e w' => (∃ v', e = .returned v' ∧ ay w' w.heap.size v' []) ∧ Below w.heap.size w w' := by
 by_cases h0 : n = 0
 ·subst h0
  go_enter Tryz.func252, Tryz.ntmps252
  go_wp2
  go_ret
  exact ⟨⟨_, rfl, ay.nil _ _⟩, Below.refl _ _⟩
 ·obtain ⟨i0, hi, hz0, hz1, hz2⟩ := info_parts Tryz.info2
  have hr := fun ty => Lib.run_append_nil_zeros (P := Tryz.prog) w 125 3 ty 2 i0 _ .i64 .i64 Tryz.underlying125 Tryz.underlying3 hi hz0 n (by omega) (by rw [hz1]; decide) (by omega) (by rw [hz2]; omega)
  have c1 := grownCap_ge w n 0 2
  have c2 := grownCap_le_maxLen w n 0 2 (by unfold maxLen; omega)
  generalize grownCap w n 0 2 = c at *
  have hown : ((w.drew).alloc (.cells (Builtin.zeroCells (Value.int .i64 0).cells n ++ Builtin.zeroCells (Value.int .i64 0).cells (c - n)) 2)).ownsRow w.heap.size 2 1 (.slice (some ⟨w.heap.size, 0, none⟩) 0 c) 0 [] := World.ownsRow_made w.drew _ c (Nat.le_refl _) c2 (by rw [Array.size_append, size_zeroCells, size_zeroCells]; show n * 1 + (c - n) * 1 = c * 1; omega)
  have hbl : Below w.heap.size w ((w.drew).alloc (.cells (Builtin.zeroCells (Value.int .i64 0).cells n ++ Builtin.zeroCells (Value.int .i64 0).cells (c - n)) 2)) := (Below.refl _ w).drew.alloc (by simp) _
  have HO := ae hown
  have HL := ae hbl
  have HR := ae hr
  clear hr hown hbl
  generalize (w.drew).alloc (.cells (Builtin.zeroCells (Value.int .i64 0).cells n ++ Builtin.zeroCells (Value.int .i64 0).cells (c - n)) 2) = W at *
  have h1 : (0 : Int) < n := by omega
  have h2 : (0 : Int) ≤ (c : Int) := by omega
  unfold maxLen at c2
  go_enter Tryz.func252, Tryz.ntmps252
  go_wp2_with (at_builtin; refine Lib.wpList_append_run _ rfl _ _ _ _ rfl _ _ rfl rfl _ _ (HR.out _) ?_)
  go_ret
  exact ⟨⟨_, rfl, HO.out⟩, HL.out⟩
def catK (a b : List Int) : Nat → List Int
 | 0 => []
 | 1 => a
 | _ => a ++ b
structure kA (w : World) (g : Nat) (va vb : Value) (a b : List Int) (k : Nat) (v : Value) (W : World) : Prop where
 own : ay W w.heap.size v (catK a b k)
 bel : Below w.heap.size w W
theorem cat_step {w W : World} {g : Nat} {va vb : Value} {a b : List Int} {k : Nat} {v : Value} (ha : NS w va a) (hb : NS w vb b) (hla : a.length ≤ 100000) (hlb : b.length ≤ 100000) (hk : k < 2) (h : kA w g va vb a b k v W) (ty : TypeId) :
  ∃ v' W', (Builtin.append_ #[125, 125] ty #[v, if k = 0 then va else vb]).run Tryz.prog W = .ok v' W' ∧ kA w g va vb a b (k + 1) v' W' := by
 have fin : ∀ v' W', ay W' w.heap.size v' (catK a b (k + 1)) → W.grownBy W' v.ownBlock → kA w g va vb a b (k + 1) v' W' := fun v' W' h1 h2 =>
  ⟨h1, h.bel.grown h2 h.bel.size (aW h.own)⟩
 have hk' : k = 0 ∨ k = 1 := by omega
 rcases hk' with rfl | rfl
 ·obtain ⟨v', W', hr, ho, hg, _⟩ := ii ty h.own (ha.below h.bel) (by simp [catK]; omega) h.bel.size
  exact ⟨v', W', hr, fin v' W' ho hg⟩
 ·obtain ⟨v', W', hr, ho, hg, _⟩ := ii ty h.own (hb.below h.bel) (by simp [catK]; omega) h.bel.size
  exact ⟨v', W', hr, fin v' W' ho hg⟩
theorem concat_any (g : Nat) (va vb : Value) (a b : List Int) (w : World) (hgl : g < w.heap.size) (h0 : w.cell? ⟨g, 0, none⟩ = some va) (h1 : w.cell? ⟨g, 1, none⟩ = some vb) (ha : NS w va a) (hb : NS w vb b) (hla : a.length ≤ 100000) (hlb : b.length ≤ 100000) :
  Calls Tryz.prog 229 #[.slice (some ⟨g, 0, none⟩) 2 2] w fun e w' => (∃ v', e = .returned v' ∧ ay w' w.heap.size v' (a ++ b)) ∧ Below w.heap.size w w' := by
 have HG := ae (fun W => grow_any (a.length + b.length) W (by omega))
 have HS := ae (fun (k : Nat) (v : Value) (W : World) (hk : k < 2) (h : kA w g va vb a b k v W) => cat_step ha hb hla hlb hk h 125)
 obtain ⟨aa, ca, rfl, -⟩ := ha
 obtain ⟨ab, cb, rfl, -⟩ := hb
 generalize hna : a.length = na at *
 generalize hnb : b.length = nb at *
 have H0 := ae (show ∀ W, Below w.heap.size w W → W.cell? ⟨g, 0, none⟩ = some (.slice aa na ca) ∧ W.cell? ⟨g, 1, none⟩ = some (.slice ab nb cb) from fun W hW => ⟨(hW.cell (p := ⟨g, 0, none⟩) hgl).trans h0, (hW.cell (p := ⟨g, 1, none⟩) hgl).trans h1⟩)
 clear hna hnb
 go_enter Tryz.func229, Tryz.ntmps229
 go_wp2
 go_loop [3, 11] (fun n i => ∃ k : Nat, k ≤ 2 ∧ i = .int .i64 (k : Int) ∧ n = .int .i64 (if k = 0 then 0 else if k = 1 then (na : Int) else (na : Int) + nb)) (fun _ i => 2 - (intOf i).toNat)
 case atStart => exact ⟨0, by omega, rfl, rfl⟩
 case round =>
  obtain ⟨k, hk, rfl, rfl⟩ := hrel
  have hk' : k = 0 ∨ k = 1 ∨ k = 2 := by omega
  rcases hk' with rfl | rfl | rfl
  ·go_wp2
   go_round
   case rel => exact ⟨1, by omega, by go_num, by simp⟩
   case measure => simp [intOf]
  ·simp only [Nat.one_ne_zero, if_false, if_true]
   go_wp2
   go_round
   case rel => exact ⟨2, by omega, by go_num, by simp⟩
   case measure => simp [intOf]
  ·rw [if_neg (by decide), if_neg (by decide), show (na : Int) + nb = ((na + nb : Nat) : Int) by omega]
   go_wp2_with (go_at_call 252; refine (HG.out _).mono ?_; rintro e w1 ⟨⟨v6, rfl, ho⟩, hbl⟩)
   have HC := ae (kA.mk (g := g) (va := .slice aa na ca) (vb := .slice ab nb cb) (a := a) (b := b) (k := 0) ho hbl)
   clear ho hbl
   go_loopw [6, 27] (fun v i wr => ∃ k : Nat, k ≤ 2 ∧ i = .int .i64 (k : Int) ∧ Hid (kA w g (.slice aa na ca) (.slice ab nb cb) a b k v wr)) (fun _ i _ => 2 - (intOf i).toNat)
   case atStart => exact ⟨0, by omega, rfl, HC⟩
   case round =>
    obtain ⟨k, hk, rfl, HK⟩ := hrel
    obtain ⟨d0, d1⟩ := H0.out _ HK.out.bel
    have hk' : k = 0 ∨ k = 1 ∨ k = 2 := by omega
    rcases hk' with rfl | rfl | rfl
    ·obtain ⟨v', W', hr, hc⟩ := HS.out 0 _ _ (by omega) HK.out
     have HR := ae hr
     have HC' := ae hc
     clear hr hc
     go_wp2_with (at_builtin; refine Lib.wpList_append_run _ rfl _ _ _ _ rfl _ _ rfl rfl _ _ HR.out ?_)
     go_roundw
     case rel => exact ⟨1, by omega, by go_num, HC'⟩
     case measure => simp [intOf]
    ·obtain ⟨v', W', hr, hc⟩ := HS.out 1 _ _ (by omega) HK.out
     have HR := ae hr
     have HC' := ae hc
     clear hr hc
     go_wp2_with (at_builtin; refine Lib.wpList_append_run _ rfl _ _ _ _ rfl _ _ rfl rfl _ _ HR.out ?_)
     go_roundw
     case rel => exact ⟨2, by omega, by go_num, HC'⟩
     case measure => simp [intOf]
    ·go_wp2
     go_ret
     exact ⟨⟨_, rfl, HK.out.own⟩, HK.out.bel⟩
end Go.Proofs.YtclcgakfmcofaaaGreatDoor
