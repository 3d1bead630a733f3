/- Texts laid together: WSort, WRows, WFold, GEq, WApp, WChkF, WByF, WTkF, MTkP. -/
import Derived.Test.YtclcgakfmcofaaaGreatDoorMW2
import Derived.Test.YtclcgakfmcofaaaGreatDoorMW8
import Derived.Shelf.SlSortCmp.NoneTotal
import Derived.Shelf.SlGeneric
import Derived.Ground.SlsfProg
import Derived.Sort.OwnSorted
import Derived.Sort.Lot0
import Derived.Test.YtclcgakfmcofaaaGreatDoorMW7
import Derived.Test.YtclcgakfmcofaaaGreatDoorMW1
import Derived.Test.YtclcgakfmcofaaaGreatDoorRows
import Derived.Shelf.Lay
import Derived.Shelf.Strings.Builder1
import Derived.WalkKit
set_option linter.unusedVariables false
set_option maxRecDepth 100000
set_option maxHeartbeats 1600000
namespace Go.Proofs.YtclcgakfmcofaaaGreatDoor
open Go.RowKit Go.Shelf
open Go.Sort (grow putRow putCells flatK HoldsK Holds putRowK PermIn SortedIn SWO)
shelf_lay_g SlLaysF0.n6 Slsf 6 at Tryz 162 as Tryz.sortW
def cfW (x y : cW) : Int := cfK x.1 y.1
theorem lt_cfW (x y : cW) : ltOf cfW x y = dk x.1 y.1 := lt_cfK x.1 y.1
theorem swoW : SWO (ltOf cfW) where
 irrefl x := by rw [lt_cfW]; exact dr _
 trans x y z h1 h2 := by rw [lt_cfW] at *; exact cB h1 h2
 ntrans x y z h1 h2 := by rw [lt_cfW] at *; exact leK_trans h2 h1
theorem cmpW_any (x y : cW) (W : World) : Calls Tryz.prog 163 #[.agg (cj x).toArray, .agg (cj y).toArray] W fun e w' => e = .returned (.int .i64 (cfW x y)) ∧ ∃ q os', w' = grow (W.drewN q) os' := by
 obtain ⟨⟨xa, xb⟩, xn, xs⟩ := x
 obtain ⟨⟨ya, yb⟩, yn, ys⟩ := y
 have hcon := fun W' => kcmp_any (xa, xb) (ya, yb) W'
 unfold cfW
 generalize cfK (xa, xb) (ya, yb) = r at hcon ⊢
 simp only [cj]
 go_enter Tryz.func163, Tryz.ntmps163
 go_wp2_with (go_at_call 125; refine (hcon _).mono ?_; rintro e w' ⟨rfl, q, os, rfl⟩)
 go_ret
 refine ⟨rfl, q, _, by rw [Go.Sort.alloc_eq_grow, Go.Sort.alloc_eq_grow, Go.Sort.grow_grow]; exact Go.Sort.grow_grow (W.drewN q) _ os⟩
theorem flatW_eq (l : List cW) : (flatK cj 4 l.toArray).toList = aw l := by
 apply List.ext_getElem?
 intro t
 by_cases ht : t < l.length * 4
 ·have hi : t / 4 < l.length := by omega
  obtain ⟨x, hx⟩ := ak hi
  obtain ⟨g0, g1, g2, g3⟩ := fD l (t / 4) x hx
  have h1 := Go.Sort.get_flatK cj 4 l.toArray t (by simpa using ht)
  have hlx : l.toArray[t / 4]! = x := by
   rw [getElem!_pos _ _ (by simpa using hi)]
   have := (List.getElem?_eq_some_iff.1 hx).2
   simpa using this
  rw [hlx] at h1
  have hsz : t < (flatK cj 4 l.toArray).size := by simpa using ht
  rw [getElem!_pos (flatK cj 4 l.toArray) t hsz] at h1
  rw [Array.getElem?_toList, Array.getElem?_eq_getElem hsz, h1]
  have h4 : t % 4 = 0 ∨ t % 4 = 1 ∨ t % 4 = 2 ∨ t % 4 = 3 := by omega
  rcases h4 with h2 | h2 | h2 | h2
  ·have e : t = t / 4 * 4 := by omega
   rw [show (aw l)[t]? = (aw l)[t / 4 * 4]? by rw [← e], g0, h2]
   rfl
  ·have e : t = t / 4 * 4 + 1 := by omega
   rw [show (aw l)[t]? = (aw l)[t / 4 * 4 + 1]? by rw [← e], g1, h2]
   rfl
  ·have e : t = t / 4 * 4 + 2 := by omega
   rw [show (aw l)[t]? = (aw l)[t / 4 * 4 + 2]? by rw [← e], g2, h2]
   rfl
  ·have e : t = t / 4 * 4 + 3 := by omega
   rw [show (aw l)[t]? = (aw l)[t / 4 * 4 + 3]? by rw [← e], g3, h2]
   rfl
 ·rw [List.getElem?_eq_none (by simp; omega), List.getElem?_eq_none (by rw [eA]; omega)]
theorem holdsW {w : World} {g : Nat} {cur : Array Value} {e : TypeId} {l : List cW} (hb : w.heap[g]? = some (.cells cur e (0, 0))) (ht : cur.toList.take (l.length * 4) = aw l) : HoldsK cj 4 w g 0 l.toArray := by
 intro j hj
 have hs0 : (flatK cj 4 l.toArray).size = l.length * 4 := by simp
 rw [hs0] at hj
 have hsz : j < (flatK cj 4 l.toArray).size := by rw [hs0]; exact hj
 refine ⟨?_, by simp [World.frozen?, hb]⟩
 have h1 : (cur.toList.take (l.length * 4))[j]? = (flatK cj 4 l.toArray).toList[j]? := by rw [ht, flatW_eq]
 rw [List.getElem?_take_of_lt hj] at h1
 simp only [World.cell?, hb, Nat.zero_add]
 simp only [Option.isSome_none, Bool.false_eq_true, if_false]
 rw [← Array.getElem?_toList, h1, Array.getElem?_toList, getElem!_pos (flatK cj 4 l.toArray) j hsz, Array.getElem?_eq_getElem hsz]
 rfl
theorem heap_sortedW {w : World} {g n : Nat} {os : Array Obj} {cur : Array Value} {e : TypeId} {fr : Nat × Nat} (d : Array Value) (hb : w.heap[g]? = some (.cells cur e fr)) :
  (grow (putRow id (Go.Sort.ahead w n) g 0 d) os).heap[g]? = some (.cells (putCells id 0 d cur) e fr) := by
 have hg : g < w.heap.size := (Array.getElem?_eq_some_iff.1 hb).1
 rw [Go.Sort.heap_grow_old _ _ (by simpa using hg)]
 simp [putRow, Go.Sort.mapBlock, Go.Sort.ahead, Array.getElem?_modify, hb, Go.Sort.onCells]
theorem lP {w : World} {g n : Nat} {os : Array Obj} (d : Array Value) : w.grownBy (grow (putRow id (Go.Sort.ahead w n) g 0 d) os) (some g) := by
 refine ⟨rfl, rfl, rfl, by simp, fun k hk hne => ?_⟩
 rw [Go.Sort.heap_grow_old _ _ (by simpa using hk)]
 have : g ≠ k := fun e => hne (by rw [e])
 simp [putRow, Go.Sort.mapBlock, Go.Sort.ahead, Array.getElem?_modify, this]
theorem take_putW (cur : Array Value) (ts : List Value) (h : ts.length ≤ cur.size) : (putCells id 0 ts.toArray cur).toList.take ts.length = ts := by
 apply List.ext_getElem?
 intro j
 by_cases hj : j < ts.length
 ·rw [List.getElem?_take_of_lt hj, Array.getElem?_toList]
  simp [putCells, hj, show j < cur.size by omega]
 ·rw [List.getElem?_take_eq_none (by omega), List.getElem?_eq_none (by omega)]
theorem sortW_own (v : Value) (base : Nat) (l : List cW) (w : World) (h : bh w base v l) (hb : base ≤ w.heap.size) (hl : l.length ≤ 100000) :
  Calls Tryz.prog 162 #[v, .func (.func 163) #[] #[]] w fun e w' => e = .returned (.tuple #[]) ∧ ∃ s, s.Perm l ∧ s.Pairwise (fun x y => dk y.1 x.1 = false) ∧ bh w' base v s ∧ w.grownBy w' v.ownBlock := by
 rcases h.2 with ⟨rfl, h0⟩ | ⟨g, cap, cur, rfl, hg, hbk, hn, hm, hs, ht⟩
 ·obtain rfl : l = [] := List.length_eq_zero_iff.1 h0
  have hc := AnyF.slices_SortFunc_none { Tryz.sortW with } none 0 (.func (.func 163) #[] #[]) w
  exact hc.mono fun e w' ⟨he, hw⟩ => ⟨he, [], .nil, .nil, by subst hw; exact h, by subst hw; exact World.grownBy.refl _ _⟩
 ·have eg : ∀ args w, (callFunc 163 args).run Tryz.prog w = .ok (.enter 163 args) w := enters_of Tryz.func163 (by kernel_rfl) rfl
  have hc := AnyQ.slices_SortFunc Tryz.sortW 4 Tryz.isAgg129 Tryz.sizeOf129 cj (fun _ => rfl) (fun x v hv => kz x v hv) cfW swoW 163 #[] g 0 cap l.toArray w eg (fun _ _ _ _ x y => cmpW_any x y _) (holdsW hbk ht) (Array.getElem?_eq_some_iff.1 hbk).1 (by simp; omega)
  simp only [List.size_toArray] at hc
  change Calls Tryz.prog 162 _ _ _ at hc
  refine hc.mono fun e w' ⟨he, d, n, os, hp, hso, hw⟩ => ⟨he, d.toList, ?_, ?_, ?_, ?_⟩
  ·have := hp.2.2
   have e1 : d.extract 0 l.length = d := by
    have hds : d.size = l.length := hp.1.trans (by simp)
    rw [← hds]; simp
   rw [e1] at this
   simpa using this
  ·have hds : d.size = l.length := hp.1.trans (by simp)
   rw [List.pairwise_iff_getElem]
   intro i j hi hj hij
   have := hso i j (Nat.zero_le _) hij (by simpa [hds] using hj)
   rw [lt_cfW, getElem!_pos d j (by simpa using hj), getElem!_pos d i (by simpa using hi)] at this
   simpa using this
  ·have hds : d.toList.length = l.length := by have := hp.1; simpa using this
   have hfl : (aw d.toList).length = l.length * 4 := by rw [eA, hds]
   subst hw
   refine ⟨by rw [eA], .inr ⟨g, cap, _, by rw [hds], hg, heap_sortedW _ hbk, by omega, hm, by simp [putCells, hs], ?_⟩⟩
   rw [hds, ← hfl]
   have e1 : flatK cj 4 d = (aw d.toList).toArray := by rw [← flatW_eq]
   rw [e1]
   exact take_putW cur _ (by rw [hfl, hs]; omega)
  ·subst hw
   exact lP _
end Go.Proofs.YtclcgakfmcofaaaGreatDoor
namespace Go.Proofs.YtclcgakfmcofaaaGreatDoor
open Go.Maps Go.RowKit
structure MetW (D : DataW Value) (st : List Rw) (left : Lit → Bool) (xs : List cW) : Prop where
 nd : (xs.map (·.1)).Nodup
 good : ∀ x ∈ xs, eI x.1
 at_ : ∀ x ∈ xs, ∀ z, D.atKey (ep x.1) z = .held (dE x.2.1 x.2.2)
 all : ∀ y, eI y → (y ∈ xs.map (·.1) ↔ (aC st y).isSome = true ∧ left (ep y) = false)
theorem MetW.start {w : World} {base : Nat} {D : DataW Value} {st : List Rw} (h : gD w base D st) : MetW D st (Maps.has D) [] := by
 refine ⟨List.nodup_nil, by simp, by simp, fun y hy => ?_⟩
 constructor
 ·intro h'; simp at h'
 ·rintro ⟨h1, h2⟩
  obtain ⟨c, hc⟩ := Option.isSome_iff_exists.1 h1
  obtain ⟨s, h3, _⟩ := h.yes y c hy hc
  rw [has_true_of_atKey h3] at h2
  cases h2
theorem MetW.step {w : World} {base : Nat} {D : DataW Value} {st : List Rw} {left : Lit → Bool} {xs : List cW} {x : cW} (h : MetW D st left xs) (hD : gD w base D st) (hg : eI x.1) (hl : left (ep x.1) = true) (hat : ∀ z, D.atKey (ep x.1) z = .held (dE x.2.1 x.2.2)) :
  MetW D st (fun z => left z && !z.sameKey (ep x.1)) (xs ++ [x]) := by
 have hyl : (aC st x.1).isSome = true := by
  cases e : aC st x.1 with
  | none => have := hD.non _ hg e; rw [has_true_of_atKey hat] at this; cases this
  | some c => rfl
 have hyn : x.1 ∉ xs.map (·.1) := fun hm => by
  have := ((h.all _ hg).1 hm).2
  rw [hl] at this
  cases this
 refine ⟨?_, ?_, ?_, fun y hy => ?_⟩
 ·rw [List.map_append, List.nodup_append]
  exact ⟨h.nd, by simp, fun a ha b hb => by simp at hb; subst hb; exact fun e => hyn (e ▸ ha)⟩
 ·intro y hy
  rcases List.mem_append.1 hy with hy | hy
  ·exact h.good y hy
  ·simp at hy; subst hy; exact hg
 ·intro y hy
  rcases List.mem_append.1 hy with hy | hy
  ·exact h.at_ y hy
  ·simp at hy; subst hy; exact hat
 ·by_cases e : y = x.1
  ·subst e
   simp [hyl, kl_same]
  ·have hne : ep y ≠ ep x.1 := fun e' => e (kl_inj hy hg e')
   have hs := sameKey_ne hne
   rw [List.map_append, List.mem_append, h.all y hy]
   simp [e, hs]
theorem MetW.fin {w : World} {base : Nat} {D : DataW Value} {st : List Rw} {left : Lit → Bool} {xs s : List cW} (h : MetW D st left xs) (hD : gD w base D st) (h0 : ∀ kl, left kl = false) (hst : aZ st) (hgs : ∀ r ∈ st, eI r.1)
  (hp : s.Perm xs) (hs : s.Pairwise (fun x y => dk y.1 x.1 = false)) : ck w base s st := by
 have hk : s.map (·.1) = st.map (·.1) := by
  refine ko (fun x => ?_) ?_ (by rw [List.pairwise_map]; exact hst)
  ·rw [(hp.map _).mem_iff]
   constructor
   ·intro hx
    obtain ⟨y, hy, rfl⟩ := List.mem_map.1 hx
    obtain ⟨c, hc⟩ := Option.isSome_iff_exists.1 ((h.all _ (h.good y hy)).1 hx).1
    exact List.mem_map.2 ⟨_, jv hc, rfl⟩
   ·intro hx
    obtain ⟨r, hr, rfl⟩ := List.mem_map.1 hx
    exact (h.all _ (hgs r hr)).2 ⟨by rw [dc hst hr]; rfl, h0 _⟩
  ·rw [List.pairwise_map]
   have hn : (s.map (·.1)).Nodup := (hp.map _).nodup_iff.2 h.nd
   have hn' : s.Pairwise (fun x y => x.1 ≠ y.1) := by
    have := hn
    unfold List.Nodup at this
    rw [List.pairwise_map] at this
    exact this
   exact (hs.and hn').imp fun {a b} hab => by
    cases h1 : dk a.1 b.1
    ·exact absurd (hI h1 hab.1) hab.2
    ·rfl
 have hlen : s.length = st.length := by have := congrArg List.length hk; simpa using this
 refine ⟨hlen, fun i x r hx hr => ?_⟩
 have e : x.1 = r.1 := by
  have : (s.map (·.1))[i]? = (st.map (·.1))[i]? := by rw [hk]
  rw [List.getElem?_map, List.getElem?_map, hx, hr] at this
  injection this
 have hxm : x ∈ xs := hp.mem_iff.1 (List.mem_of_getElem? hx)
 have hat := h.at_ x hxm
 obtain ⟨s', h3, h4⟩ := hD.yes x.1 r.2 (h.good x hxm) (by rw [e]; exact dc hst (List.mem_of_getElem? hr))
 have e2 := hat (.held zC)
 rw [h3] at e2
 injection e2 with e2
 injection e2 with e2
 injection e2 with e2
 injection e2 with e3 e4
 injection e3 with _ e3
 injection e4 with e4 _
 injection e4 with f1 f2 f3
 have e5 : s' = x.2.2 := Prod.ext f1 (Prod.ext f2 f3)
 subst e5
 exact ⟨e, e3.symm, h4⟩
theorem rowx_ne_map {w : World} {B n base m : Nat} {D : DataW Value} {e : TypeId} {size : Nat} {v : Value} {xs : List Value} (h : w.ownsRow base e size v m xs) (hm : w.ownsMap Tryz.prog 124 RC B n D) : some B ≠ v.ownBlock := by
 obtain ⟨es, clock, hb, _⟩ := hm
 rcases h.2 with ⟨rfl, _⟩ | ⟨g, cap, cur, rfl, _, hg, _⟩
 ·simp [Value.ownBlock]
 ·intro e1
  have : B = g := by simpa [Value.ownBlock] using e1
  subst this
  rw [hb] at hg
  cases hg
theorem cw {W W' : World} {base : Nat} {v : Value} {xs : List cW} (h : bh W base v xs) (hg : W.grownBy W' v.ownBlock) : dR W W' := by
 refine dR.grown hg fun g cur e hh => ?_
 rcases h.2 with ⟨rfl, _⟩ | ⟨g', cap, cur', rfl, _, hb, _⟩
 ·simp [Value.ownBlock] at e
 ·have : g' = g := by simpa [Value.ownBlock] using e
  subst this
  rw [hb] at hh
  injection hh with hh
  injection hh with _ hh
  cases hh
theorem jL (w : World) (a : Int) (b : ByteArray) (n : Int) (s : Value) (T : TypeId) : ∀ j u, [Value.int .i64 a, .string b, .int .i64 n, s][j]? = some u → (w.alloc (.cells #[.int .i64 a, .string b, .int .i64 n, s] T)).cell? ((⟨w.heap.size, 0, none⟩ : Addr).add j) = some u :=
 fun j u hu => World.news_of_block (heap_alloc_new w _) j u hu
theorem iter_row {w : World} {mp it n cn : Nat} {D : DataW Value} {left : Lit → Bool} (h : w.ranges Tryz.prog 124 RC mp it n D left cn) : ∀ (g : Nat) (cur : Array Value), some it = some g → w.heap[g]? ≠ some (.cells cur 2 (0, 0)) := by
 intro g cur e hh
 obtain ⟨_, _, _, _, _, _, _, _, _, hit, _⟩ := h
 injection e with e
 subst e
 rw [hit] at hh
 cases hh
abbrev RowsR (w : World) (base : Nat) (r : List Rw × Int) : Ending → World → Prop := fun e w' => (∃ v, e = .returned (.tuple #[v, .int .i64 r.2]) ∧ aQ w' base v r.1) ∧ Below base w w'
theorem rows_any (gp mp base n : Nat) (agg bound : Int) (S : List Rw × Int) (w : World) (h : km w base gp mp agg bound S.1 S.2 n) (hb : base ≤ w.heap.size) (hr : aZ S.1) (hgs : ∀ r ∈ S.1, eI r.1) (hlen : S.1.length ≤ 100000) :
  Calls Tryz.prog 134 #[.pointer (some ⟨gp, 0, none⟩)] w (RowsR w base (fin S)) := by
 obtain ⟨st, bad⟩ := S
 obtain ⟨i0, hi, hz0, hz1, hz2⟩ := info_parts Tryz.infoRow
 obtain ⟨g0, g1, g2, g3, g4⟩ := h.cells
 simp only at hr hgs hlen g3
 by_cases hbad : bad = 0
 ·subst hbad
  rw [fin_ok rfl]
  obtain ⟨D, hom, hmc⟩ := h.mo
  have hmc : gD w base D st := hmc
  go_enter Tryz.func134, Tryz.ntmps134
  go_wp2_with (at_range; refine wpList_range_own _ rfl _ 253 rfl 124 127 law Tryz.underlying253 RC mp n D rfl hom ?_; intro w1 hrg1 hgr1 hs1)
  have hbel1 : Below base w w1 := (Below.refl base w).grown hgr1 hb (fun k hk => by cases hk)
  have hmc1 : gD w1 base D st := hmc.keep (dR.grown hgr1 (fun g cur e => by cases e))
  clear hs1 hgr1
  try go_frame
  go_loopw [4] (fun v2 wr => ∃ left cn xs, wr.ranges Tryz.prog 124 RC mp w.heap.size n D left cn ∧ MetW D st left xs ∧ bh wr base v2 xs ∧ gD wr base D st ∧ Below base w wr) (fun _ wr => wr.rangeLeft mp w.heap.size)
  case atStart => exact ⟨_, _, [], hrg1, MetW.start hmc, World.ownsRow_nil _ _ _ _, hmc1, hbel1⟩
  case round =>
   clear hrg1 hbel1 hmc1
   rename World => w2
   obtain ⟨left, cn, xs, hrg, hM, hok, hmc2, hbel⟩ := hrel
   have hsz2 : base ≤ w2.heap.size := Nat.le_trans hb hbel.size
   have hxl : xs.length ≤ 100000 := by
    have h1 : (xs.map (·.1)).length ≤ (st.map (·.1)).length := nodup_le hM.nd (fun x hx => by
     obtain ⟨y, hy, rfl⟩ := List.mem_map.1 hx
     obtain ⟨c, hc⟩ := Option.isSome_iff_exists.1 ((hM.all _ (hM.good y hy)).1 hx).1
     exact List.mem_map.2 ⟨_, jv hc, rfl⟩)
    simp at h1
    omega
   go_wp2_with (at_next; refine wpList_next_ranges _ rfl _ rfl 124 law RC iy id invK invV mp w.heap.size n _ _ _ rfl hrg ?_ ?_)
   ·intro _ hl0
    have hs3 := sortW_own _ base xs w2 hok hsz2 hxl
    go_wp2_with fail
    refine hs3.mono ?_
    rintro e w3 ⟨rfl, s, hp, hso, hok3, hgr3⟩
    have hall := hM.fin (hmc2.keep (cw hok hgr3)) hl0 hr hgs hp hso
    have hbel3 : Below base w w3 := hbel.grown hgr3 hsz2 (aW hok)
    clear hs3 hgr3 hok hrg hM hl0 hbel hmc2
    go_wp2
    go_ret2
    exact ⟨⟨_, rfl, s, hok3, hall⟩, hbel3⟩
   ·intro xa xb c kl yd yp w3 cn3 nk hlk hv hatk hrg3 hltc hg3 hs3 hen
    obtain ⟨rfl, hgx⟩ := key_back nk
    have hd : yd = .held c := rc_held hv
    have hatk' : ∀ z, D.atKey (ep (xa, xb)) z = .held c := fun z => (hatk z).trans hd
    obtain ⟨c1, c2, s, rfl, hos⟩ : ∃ (c1 : Int) (c2 : List Int) (s : Sl), c = dE c1 s ∧ ay w2 base (dD s) c2 := by
     cases e : aC st (xa, xb) with
     | none => have := hmc2.non _ hgx e; rw [has_true_of_atKey hatk'] at this; cases this
     | some cl =>
      obtain ⟨s, h1, h2⟩ := hmc2.yes _ _ hgx e
      have := hatk' (.held zC)
      rw [h1] at this
      injection this with this
      exact ⟨cl.1, cl.2, s, this.symm, h2⟩
    obtain ⟨s1, s2, s3⟩ := s
    have hM3 := hM.step (x := ((xa, xb), c1, (s1, s2, s3))) hmc2 hgx hlk hatk'
    have hok3 : bh w3 base _ xs := hok.kept hg3 (.inr (Ne.symm (row_ne_iter hok hrg)))
    have hmc3 : gD w3 base D st := hmc2.keep (dR.grown hg3 (iter_row hrg))
    have hbel3 : Below base w w3 := hbel.grown hg3 hsz2 (fun k hk => by injection hk with hk; omega)
    have hsz3 : base ≤ w3.heap.size := Nat.le_trans hb hbel3.size
    have HL : Hid (w2.rangeLeft mp w.heap.size = cn) := hrg.left_eq
    simp only [iy, dE, dD] at hen
    clear hs3 nk hlk hv hatk hg3 hok hbel hM hrg hos hmc2 hatk' hd
    have hnw : ∀ j u, [Value.int .i64 xa, .string xb, .int .i64 c1, .slice s1 s2 s3][j]? = some u → (((w3.alloc (.cells #[.int .i64 xa, .string xb] 124)).alloc (.cells #[.int .i64 c1, .slice s1 s2 s3] 127)).alloc (.cells #[.int .i64 xa, .string xb, .int .i64 c1, .slice s1 s2 s3] 129)).cell? ((⟨w3.heap.size + 1 + 1, 0, none⟩ : Addr).add j) = some u := by
     have := jL ((w3.alloc (.cells #[.int .i64 xa, .string xb] 124)).alloc (.cells #[.int .i64 c1, .slice s1 s2 s3] 127)) xa xb c1 (.slice s1 s2 s3) 129
     rwa [show ((w3.alloc (.cells #[.int .i64 xa, .string xb] 124)).alloc (.cells #[.int .i64 c1, .slice s1 s2 s3] 127)).heap.size = w3.heap.size + 1 + 1 by simp] at this
    go_wp2_with (at_builtin; refine wpList_append_own _ rfl _ _ 61 rfl base 129 i0 _ 4 56 Tryz.underlying61 hi hz0 hz1 hz2 rfl (by decide) _ _ _ rfl (((hok3.alloc _).alloc _).alloc _) ⟨w3.heap.size + 1 + 1, 0, none⟩ 1 1 [.int .i64 xa, .string xb, .int .i64 c1, .slice s1 s2 s3] rfl rfl hnw (kz ((xa, xb), c1, (s1, s2, s3))) ?c3 ?c4 ?c5 ?_)
    case c3 => unfold maxLen; omega
    case c4 => omega
    case c5 => first | omega | (simp; omega)
    intro v4 w4 hown4 hgrow4 _
    have hok4 : bh w4 base v4 (xs ++ [((xa, xb), c1, (s1, s2, s3))]) := bh.snoc (x := ((xa, xb), c1, (s1, s2, s3))) hown4 rfl
    have hgall := (World.grownBy_alloc w3 (.cells #[.int .i64 xa, .string xb] 124) _).trans ((World.grownBy_alloc (w3.alloc (.cells #[.int .i64 xa, .string xb] 124)) (.cells #[.int .i64 c1, .slice s1 s2 s3] 127) _).trans ((World.grownBy_alloc ((w3.alloc (.cells #[.int .i64 xa, .string xb] 124)).alloc (.cells #[.int .i64 c1, .slice s1 s2 s3] 127)) (.cells #[.int .i64 xa, .string xb, .int .i64 c1, .slice s1 s2 s3] 129) _).trans hgrow4))
    have hrg4 := hrg3.kept hgall (rowx_ne_map hok3 hrg3.owns) (row_ne_iter hok3 hrg3)
    have hmc4 := hmc3.keep (cw hok3 hgall)
    have hbel4 : Below base w w4 := hbel3.grown hgall hsz3 (aW hok3)
    have HLT : Hid (w4.rangeLeft mp w.heap.size < w2.rangeLeft mp w.heap.size) := by unfold Hid; rw [hrg4.left_eq, HL.out]; exact hltc
    clear hown4 hgrow4 hgall hok3 hrg3 hbel3 hnw hltc HL hmc3
    go_wp2
    go_roundw
    case rel => exact ⟨_, _, _, hrg4, hM3, hok4, hmc4, hbel4⟩
    case measure => exact HLT.out
 ·have hb' : (bad != 0) = true := by simp [hbad]
  rw [fS hbad]
  simp only
  go_enter Tryz.func134, Tryz.ntmps134
  go_wp2
  go_quiet (fail)
  go_wp2
  go_ret2
  exact ⟨⟨_, rfl, aQ.nil _ _⟩, (ec.below (w := w) ⟨_, rfl⟩ _)⟩
def OkC (agg bound : Int) (c : Cl) : Prop := fd agg bound c = true ∧ WfC c ∧ c.2.length ≤ 32
theorem okC_join {agg bound : Int} {a b : Cl} (ha : OkC agg bound a) (hb : OkC agg bound b) : ((am agg bound.toNat a b).2 = 0 → OkC agg bound (am agg bound.toNat a b).1) ∧ ((am agg bound.toNat a b).2 = 0 ∨ (am agg bound.toNat a b).2 = 11) := by
 have := chk_join ha.1 hb.1 ha.2.1 hb.2.1
 rw [jK ha.1 hb.1] at this
 exact ⟨fun h => ⟨this.1 h, this.2.1, this.2.2.1⟩, this.2.2.2⟩
theorem okC_gat {agg bound : Int} (l : List Rw) (hl : ∀ r ∈ l, OkC agg bound r.2) : ∀ x c, aC (em (am agg bound.toNat) l).1 x = some c → OkC agg bound c :=
 (all_gat (P := OkC agg bound) (E := fun e => e = 0 ∨ e = 11) (fun a b ha hb => okC_join ha hb) (.inl rfl) l hl).1
theorem okC_one {agg bound v : Int} (hw : aJ agg bound = true) (hv : bw v) : OkC agg bound (dt agg v) := ⟨chk_one v hw, (wf_one hv).1, (wf_one hv).2⟩
theorem okC_fold {agg bound : Int} (l : List Rc) (hw : aJ agg bound = true) (hl : Wf l) : ∀ x c, aC (aB agg bound.toNat l).1 x = some c → OkC agg bound c :=
 okC_gat _ fun r hr => by
  unfold eo at hr
  obtain ⟨y, hy, rfl⟩ := List.mem_map.1 hr
  exact okC_one hw ⟨(hl y hy).v1, (hl y hy).v2⟩
theorem good_rec {x : Rc} (h : Wr x) : eI x.1 := ⟨⟨h.k1, h.k2⟩, by have := h.txt; unfold maxLen; omega⟩
def aU (l : List Rc) : Bool := l.all fun r => decide (r.1.2.size ≤ 64)
def fe (agg bound : Int) (l : List Rc) : List Rw × Int := if aJ agg bound && decide (l.length ≤ 1536) && aU l then fin (aB agg bound.toNat l) else ([], 1)
theorem my (agg bound : Int) (w : World) : Calls Tryz.prog 78 #[.int .i64 agg, .int .i64 bound] w (jI w (aJ agg bound)) := by
 have H := ae (fun W => eB agg bound (.agg #[.int .i64 0, .slice none 0 0]) (0, []) W ⟨none, 0, rfl, none, 0, rfl, .inl rfl⟩ (by decide))
 cases hw : aJ agg bound with
 | true =>
  rw [chk_zero hw, show iz true = 0 from rfl] at H
  go_enter Tryz.func78, Tryz.ntmps78
  go_wp2_with (go_at_call 80; refine (H.out _).mono ?_; rintro e W2 ⟨rfl, hb2⟩)
  go_ret
  exact ⟨rfl, hb2⟩
 | false =>
  rw [show fd agg bound (0, []) = false by unfold fd; rw [hw, Bool.false_and], show iz false = 1 from rfl] at H
  go_enter Tryz.func78, Tryz.ntmps78
  go_wp2_with (go_at_call 80; refine (H.out _).mono ?_; rintro e W2 ⟨rfl, hb2⟩)
  go_ret
  exact ⟨rfl, hb2⟩
theorem newG_any (agg bound : Int) (base : Nat) (w : World) (hb : base ≤ w.heap.size) : Calls Tryz.prog 131 #[.int .i64 agg, .int .i64 bound] w fun e w' => e = .returned (.pointer (some ⟨w.heap.size + 1, 0, none⟩)) ∧ km w' base (w.heap.size + 1) w.heap.size agg bound [] 0 0 ∧ Below w.heap.size w w' := by
 have hmm := @run_makeMap Tryz.prog
 go_enter Tryz.func131, Tryz.ntmps131
 go_wp2
 go_ret
 have st : ∀ (W : World) (o : Obj), Below W.heap.size W (W.alloc o) := fun W o => (Below.refl _ _).alloc (Nat.le_refl _) _
 refine ⟨rfl, ⟨?_, ⟨.map [], (World.ownsMap_made w _ _ _).alloc _, gD.start _ _⟩, by omega, hb⟩, ag (st _ _) (st _ _)⟩
 have := heap_alloc_new (w.alloc (.map #[] 0)) (.cells #[.int .i64 agg, .int .i64 bound, .map (some w.heap.size), .int .i64 0] 255)
 simpa using this
theorem kZ {l : List Rc} {k : Nat} {x : Rc} (h : aU (l.take k) = true) (hx : l[k]? = some x) (hs : x.1.2.size ≤ 64) : aU (l.take (k + 1)) = true := by
 rw [List.take_add_one, hx]
 unfold aU at h ⊢
 simp only [Option.toList_some, List.all_append, h, Bool.true_and]
 simpa using hs
theorem mz {l : List Rc} {k : Nat} {x : Rc} (hx : l[k]? = some x) (hs : ¬ x.1.2.size ≤ 64) : aU l = false := by
 cases h : aU l with
 | false => rfl
 | true =>
  unfold aU at h
  rw [List.all_eq_true] at h
  have := h x (List.mem_of_getElem? hx)
  simp at this
  omega
theorem haveKeys_any (v : Value) (l : List Rc) (w : World) (h : RS w v l) (hl : l.length ≤ 100000) : Calls Tryz.prog 130 #[v] w (jI w (aU l)) := by
 have HK := ae (fun (x : Ky) W => eH x W)
 rcases h.shape with ⟨a, cap, rfl, rfl⟩ | ⟨b, off, cap, rfl, hb, hat⟩
 ·go_enter Tryz.func130, Tryz.ntmps130
  go_wp2
  go_loop [7] (fun i => i = .int .i64 0) (fun _ => 0)
  case atStart => rfl
  case round =>
   subst hrel
   go_wp2
   go_ret
   exact ⟨rfl, Below.refl _ _⟩
 ·go_enter Tryz.func130, Tryz.ntmps130
  go_wp2
  go_loopw [7] (fun i wr => ∃ k : Nat, k ≤ l.length ∧ i = .int .i64 k ∧ aU (l.take k) = true ∧ Below w.heap.size w wr) (fun i _ => l.length - (intOf i).toNat)
  case atStart => exact ⟨0, by omega, rfl, rfl, Below.refl _ _⟩
  case round =>
   rename World => w0
   obtain ⟨k, hk, rfl, hok, hbel⟩ := hrel
   have hsz := hbel.size
   by_cases hlt : k < l.length
   ·obtain ⟨⟨⟨ya, yb⟩, yv⟩, hy⟩ := ak hlt
    obtain ⟨c0, c1, c2⟩ := hat.below hbel hb k _ hy
    simp only at c0 c1 c2
    have hbl : b < w0.heap.size := by omega
    have HC := HK.out (ya, yb)
    by_cases hs : yb.size ≤ 64
    ·rw [if_pos (show (ya, yb).2.size ≤ 64 from hs)] at HC
     have hok2 := kZ hok hy hs
     have HB := ae (hbel.alloc hsz (.cells #[.int .i64 ya, .string yb, .int .i64 yv] 155))
     clear HK
     go_wp2_with (go_at_call 79; refine (HC _).mono ?_; rintro e W2 ⟨rfl, hb2⟩)
     go_roundw
     case rel => exact ⟨k + 1, by omega, by go_num, hok2, ag HB.out hb2⟩
     case measure => simp [intOf]; omega
    ·rw [if_neg (show ¬ (ya, yb).2.size ≤ 64 from hs)] at HC
     have HB := ae (hbel.alloc hsz (.cells #[.int .i64 ya, .string yb, .int .i64 yv] 155))
     have hbad := mz hy hs
     rw [hbad]
     clear HK
     go_wp2_with (go_at_call 79; refine (HC _).mono ?_; rintro e W2 ⟨rfl, hb2⟩)
     go_ret
     exact ⟨rfl, ag HB.out hb2⟩
   ·have hlt' : l.length ≤ k := by omega
    rw [List.take_of_length_le hlt'] at hok
    go_wp2
    go_ret
    exact ⟨by rw [hok]; rfl, hbel⟩
theorem len_fold (agg : Int) (bd : Nat) (l : List Rc) : (aB agg bd l).1.length ≤ l.length := by
 have := len_gat (am agg bd) (eo agg l)
 unfold aB
 unfold eo at this ⊢
 simpa using this
theorem oe (agg : Int) (bd : Nat) {l : List Rc} (hwf : Wf l) : ∀ r ∈ (aB agg bd l).1, eI r.1 := by
 intro r hr
 have h1 := dc (hY agg bd l) hr
 obtain ⟨y, hy, e⟩ := (keys_gat (am agg bd) (eo agg l) r.1).1 (by unfold aB at h1; rw [h1]; rfl)
 unfold eo at hy
 obtain ⟨z, hz, rfl⟩ := List.mem_map.1 hy
 rw [← e]
 exact good_rec (hwf z hz)
theorem blk3 {W : World} {b : Nat} {u v x : Value} {T : TypeId} (h : W.heap[b]? = some (.cells #[u, v, x] T (0, 0))) : W.cell? ⟨b, 0, none⟩ = some u ∧ W.cell? ⟨b, 1, none⟩ = some v ∧ W.cell? ⟨b, 2, none⟩ = some x := by
 refine ⟨?_, ?_, ?_⟩ <;> simp [World.cell?, h]
theorem mA (agg bound : Int) (v : Value) (l : List Rc) (w : World) (h : RS w v l) (hwf : Wf l) (hl : l.length ≤ 100000) :
  Calls Tryz.prog 87 #[.int .i64 agg, .int .i64 bound, v] w (RowsR w w.heap.size (fe agg bound l)) := by
 have H1 := ae (fun W => my agg bound W)
 have H2 := ae (fun W (hW : Below w.heap.size w W) => haveKeys_any v l W (h.below hW) hl)
 unfold fe
 obtain ⟨va, vc, rfl, -⟩ := id h
 by_cases hok : (aJ agg bound && decide (l.length ≤ 1536) && aU l) = true
 ·rw [if_pos hok]
  simp only [Bool.and_eq_true, decide_eq_true_eq] at hok
  obtain ⟨⟨hw, hl2⟩, hko⟩ := hok
  have hl2' : ¬ ((1536 : Int) < (l.length : Int)) := by omega
  have hl3 : (decide ((1536 : Int) < (l.length : Int))) = false := decide_eq_false hl2'
  rw [hw] at H1
  rw [hko] at H2
  have H3 := ae (fun W (hW : w.heap.size ≤ W.heap.size) => newG_any agg bound w.heap.size W hW)
  go_enter Tryz.func87, Tryz.ntmps87
  go_wp2_with (go_at_call 78; refine (H1.out _).mono ?_; rintro e W1 ⟨rfl, hb1⟩)
  go_wp2_with (go_at_call 130; refine (H2.out _ hb1).mono ?_; rintro e W2 ⟨rfl, hb2⟩)
  go_wp2_with (go_at_call 131; refine (H3.out _ (by have := (ag hb1 hb2).size; exact this)).mono ?_; rintro e W3 ⟨rfl, hG3, hb3⟩)
  have hb3' := ag (ag hb1 hb2) hb3
  have hsz2 : w.heap.size ≤ W2.heap.size := (ag hb1 hb2).size
  clear hb1 hb2 hb3
  generalize W2.heap.size + 1 = gp at hG3 ⊢
  generalize W2.heap.size = mp at hG3 hsz2
  clear W1 W2 H1 H2 H3
  go_loopw [32] (fun i wr => ∃ k : Nat, k ≤ l.length ∧ i = .int .i64 k ∧ km wr w.heap.size gp mp agg bound (aB agg bound.toNat (l.take k)).1 (aB agg bound.toNat (l.take k)).2 k ∧ Below w.heap.size w wr) (fun i _ => l.length - (intOf i).toNat)
  case atStart => exact ⟨0, by omega, rfl, hG3, hb3'⟩
  case round =>
   clear hG3 hb3'
   rename World => w0
   obtain ⟨k, hk, rfl, hG, hbel⟩ := hrel
   have hsz := hbel.size
   by_cases hlt : k < l.length
   ·obtain ⟨⟨⟨ya, yb⟩, yv⟩, hy⟩ := ak hlt
    have hwr := hwf _ (List.mem_of_getElem? hy)
    obtain ⟨a0, cap0, e0, hsh⟩ := id h
    injection e0 with e1 e2 e3
    subst e1 e3
    rcases hsh with rfl | ⟨b, off, rfl, hb, hat⟩
    ·simp at hlt
    obtain ⟨c0, c1, c2⟩ := hat.below hbel hb k _ hy
    simp only at c0 c1 c2
    have hstep : l.take (k + 1) = l.take k ++ [((ya, yb), yv)] := by rw [List.take_add_one, hy]; rfl
    have HO := ae (fun W => cone_any agg bound yv W)
    rw [oneR_of yv hw] at HO
    obtain ⟨Wa, hWa⟩ : ∃ Wa : World, Wa = w0.alloc (.cells #[.int .i64 ya, .string yb, .int .i64 yv] 155) := ⟨_, rfl⟩
    have hba : Below w0.heap.size w0 Wa := by rw [hWa]; exact (Below.refl _ _).alloc (Nat.le_refl _) _
    have hra : Wa.heap[w0.heap.size]? = some (.cells #[.int .i64 ya, .string yb, .int .i64 yv] 155 (0, 0)) := by rw [hWa]; exact heap_alloc_new w0 _
    have hsa : Wa.heap.size = w0.heap.size + 1 := by rw [hWa]; simp
    have HA := ae hWa.symm
    obtain ⟨b0, b1, b2⟩ := blk3 hra
    have HR := ae (show ∀ W, Below Wa.heap.size Wa W → W.cell? ⟨w0.heap.size, 0, none⟩ = some (.int .i64 ya) ∧ W.cell? ⟨w0.heap.size, 1, none⟩ = some (.string yb) from fun W hW => by
     obtain ⟨b0, b1, b2⟩ := blk3 ((hW.block w0.heap.size (by omega)).trans hra)
     exact ⟨b0, b1⟩)
    have HG := ae (show ∀ W v, Below Wa.heap.size Wa W → CS W v (dt agg yv) → Calls Tryz.prog 133 #[.pointer (some ⟨gp, 0, none⟩), iy (ya, yb), v] W fun e w' => e = .returned (.tuple #[]) ∧ km w' w.heap.size gp mp agg bound (aB agg bound.toNat (l.take (k + 1))).1 (aB agg bound.toNat (l.take (k + 1))).2 (k + 1) ∧ Below w.heap.size w w' from fun W v hW hv => by
     have ho := okC_one hw (v := yv) ⟨hwr.v1, hwr.v2⟩
     have hbw := ag hba hW
     have := add_any gp mp w.heap.size k agg bound (aB agg bound.toNat (l.take k)) ((ya, yb), dt agg yv) v W (hG.below hbw) (by have := hbw.size; omega) (by omega) (good_rec hwr) hv ho.2.2 (hY _ _ _) ho.1 ho.2.1 (okC_fold _ hw (fun x hx => hwf x (List.mem_of_mem_take hx)))
     refine this.mono ?_
     rintro e w' ⟨rfl, g1, g2⟩
     rw [hstep, foldR_snoc]
     exact ⟨rfl, g1, (hbel.trans (hbw.mono hsz)).trans g2⟩)
    have hst : ∀ (W : World) (o : Obj), Below W.heap.size W (W.alloc o) := fun W o => (Below.refl _ _).alloc (Nat.le_refl _) _
    have HST := ae hst
    clear hWa hra hG hbel hat hst
    go_wp2_with (go_at_call 132; rw [HA.out]; refine (HO.out _).mono ?_; rintro e W6 ⟨⟨v6, rfl, a6, c6, rfl, ho6⟩, hb6⟩; obtain ⟨r0, r1⟩ := HR.out _ hb6; obtain ⟨r0', r1'⟩ := HR.out _ (ag hb6 (HST.out W6 (.cells #[.int .i64 (dt agg yv).1, .slice a6 (dt agg yv).2.length c6] 127))))
    refine (HG.out _ _ (ag hb6 (HST.out W6 _)) ⟨a6, c6, rfl, (ay.ns ho6).below (HST.out W6 _)⟩).mono ?_
    rintro e w7 ⟨rfl, hG7, hb7⟩
    go_wp2
    go_roundw
    case rel => exact ⟨k + 1, by omega, by go_num, hG7, hb7⟩
    case measure => simp [intOf]; omega
   ·have hlt' : l.length ≤ k := by omega
    rw [List.take_of_length_le hlt'] at hG
    have HR := ae (rows_any gp mp w.heap.size k agg bound (aB agg bound.toNat l) w0 hG hsz (hY _ _ _) (oe _ _ hwf) (by have := len_fold agg bound.toNat l; omega))
    go_wp2_with (go_at_call 134; refine HR.out.mono ?_; rintro e w' ⟨⟨v', rfl, ho⟩, hb'⟩)
    go_ret2
    exact ⟨⟨_, rfl, ho⟩, hbel.trans hb'⟩
 ·rw [if_neg hok]
  by_cases hw : aJ agg bound = true
  ·rw [hw] at H1
   by_cases hl2 : l.length ≤ 1536
   ·have hko : aU l = false := by
     cases hk : aU l with
     | false => rfl
     | true => exact absurd (by rw [hw, hk]; simpa using hl2) hok
    have hl3 : (decide ((1536 : Int) < (l.length : Int))) = false := decide_eq_false (by omega)
    rw [hko] at H2
    go_enter Tryz.func87, Tryz.ntmps87
    go_wp2_with (go_at_call 78; refine (H1.out _).mono ?_; rintro e W1 ⟨rfl, hb1⟩)
    go_wp2_with (go_at_call 130; refine (H2.out _ hb1).mono ?_; rintro e W2 ⟨rfl, hb2⟩)
    go_ret2
    exact ⟨⟨_, rfl, aQ.nil _ _⟩, ag hb1 hb2⟩
   ·have hl3 : (decide ((1536 : Int) < (l.length : Int))) = true := decide_eq_true (by omega)
    go_enter Tryz.func87, Tryz.ntmps87
    go_wp2_with (go_at_call 78; refine (H1.out _).mono ?_; rintro e W1 ⟨rfl, hb1⟩)
    go_ret2
    exact ⟨⟨_, rfl, aQ.nil _ _⟩, hb1⟩
  ·rw [show aJ agg bound = false by simpa using hw] at H1
   go_enter Tryz.func87, Tryz.ntmps87
   go_wp2_with (go_at_call 78; refine (H1.out _).mono ?_; rintro e W1 ⟨rfl, hb1⟩)
   go_ret2
   exact ⟨⟨_, rfl, aQ.nil _ _⟩, hb1⟩
end Go.Proofs.YtclcgakfmcofaaaGreatDoor
namespace Go.Proofs.YtclcgakfmcofaaaGreatDoor
open Go.RowKit
structure CpR (W0 : World) (l : List Int) (k : Nat) (v : Value) (W : World) : Prop where
 own : ay W W0.heap.size v (l.take k)
 bel : Below W0.heap.size W0 W
theorem nK (v : Value) (l : List Int) (w : World) (h : NS w v l) (hl : l.length ≤ 100000) :
  Calls Tryz.prog 213 #[v] w fun e w' => (∃ v', e = .returned v' ∧ ay w' w.heap.size v' l) ∧ Below w.heap.size w w' := by
 obtain ⟨a, cap, rfl, h⟩ := h
 have HA := ae (show ∀ i x, l[i]? = some x → ∃ p o, a = some ⟨p, o, none⟩ ∧ ∀ W', Below w.heap.size w W' → W'.cell? ⟨p, o + i, none⟩ = some (.int .i64 x) from fun i x hx => by
  rcases h with e | ⟨p, o, rfl, hp, hat⟩
  ·rw [e] at hx; simp at hx
  ·exact ⟨p, o, rfl, fun W' hW' => hat.below hW' hp i x hx⟩)
 clear h
 obtain ⟨n, hn⟩ : ∃ n, l.length = n := ⟨_, rfl⟩
 rw [hn] at hl ⊢
 have HN := ae hn
 clear hn
 have H0 := ae (show CpR w l 0 (.slice none 0 0) w from ⟨by rw [List.take_zero]; exact ay.nil _ _, Below.refl _ _⟩)
 go_enter Tryz.func213, Tryz.ntmps213
 go_wp2
 go_loopw [3, 4] (fun x i wr => ∃ k : Nat, k ≤ n ∧ i = .int .i64 k ∧ Hid (CpR w l k x wr)) (fun _ i _ => n - (intOf i).toNat)
 case atStart => exact ⟨0, by omega, rfl, H0⟩
 case round =>
  obtain ⟨k, hk, rfl, HK⟩ := hrel
  by_cases hlt : k < n
  ·obtain ⟨y, hy⟩ := ak (l := l) (i := k) (by have := HN.out; omega)
   obtain ⟨p, o, rfl, hc⟩ := HA.out k y hy
   have c0 := hc _ HK.out.bel
   have HY := ae hy
   clear hy hc
   have hk0 : (0 : Int) ≤ k := by omega
   have hkl : (k : Int) < n := by omega
   go_wp2_with (at_builtin; refine oa rfl _ _ rfl rfl rfl HK.out.own (by rw [List.length_take]; omega) HK.out.bel.size ?_; intro v' W' ho' hb')
   go_roundw
   case rel => exact ⟨k + 1, by omega, by go_num, by rw [fC HY.out]; exact ho', hb' _ HK.out.bel⟩
   case measure => simp [intOf]; omega
  ·obtain rfl : k = n := by omega
   have ho := HK.out.own
   rw [List.take_of_length_le (Nat.le_of_eq HN.out)] at ho
   have HO := ae ho
   clear ho
   go_wp2
   go_ret
   exact ⟨⟨_, rfl, HO.out⟩, HK.out.bel⟩
theorem aH.other {W : World} {b b' o : Nat} {n : Int} {v u : Value} (h : aH W b n v) (hne : b ≠ b') : aH (W.setCell ⟨b', o, none⟩ u) b n v := by
 unfold aH
 rw [Below.heap_setCell _ _ _ _ hne]
 exact h
theorem copycell_any (v : Value) (c : Cl) (w : World) (h : CS w v c) (hl : c.2.length ≤ 100000) : Calls Tryz.prog 184 #[v] w (CellA w c) := by
 obtain ⟨a, cap, rfl, hn⟩ := h
 obtain ⟨n, l⟩ := c
 simp only at *
 obtain ⟨W1, hW⟩ : ∃ W1 : World, ((w.alloc (.cells #[.int .i64 n, .slice a l.length cap] 127)).alloc (.cells #[.int .i64 0, .slice none 0 0] 127)).alloc (.cells #[.int .i64 n, .slice a l.length cap] 127) = W1 := ⟨_, rfl⟩
 have st : ∀ (W : World) (o : Obj), Below W.heap.size W (W.alloc o) := fun W o => (Below.refl _ _).alloc (Nat.le_refl _) _
 have hb1 : Below w.heap.size w W1 := by rw [← hW]; exact ag (ag (st _ _) (st _ _)) (st _ _)
 have hsz : W1.heap.size = w.heap.size + 3 := by rw [← hW]; simp
 have n1 : aH W1 (w.heap.size + 1) 0 (.slice none 0 0) := by
  have := (aH.new (w.alloc (.cells #[.int .i64 n, .slice a l.length cap] 127)) 0 (.slice none 0 0)).below (st _ (.cells #[.int .i64 n, .slice a l.length cap] 127))
  rw [hW] at this
  simpa using this
 have n2 : aH W1 (w.heap.size + 1 + 1) n (.slice a l.length cap) := by
  have := aH.new ((w.alloc (.cells #[.int .i64 n, .slice a l.length cap] 127)).alloc (.cells #[.int .i64 0, .slice none 0 0] 127)) n (.slice a l.length cap)
  rw [hW] at this
  simpa using this
 have H := ae (nK _ l W1 (hn.below hb1) hl)
 have HW := ae hW
 have HB := ae hb1
 have HZ := ae hsz
 have HN1 := ae n1
 have HN2 := ae n2
 clear hW hb1 hsz n1 n2 hn st
 go_enter Tryz.func184, Tryz.ntmps184
 go_wp2_with (go_at_call 213; rw [HW.out]; refine H.out.mono ?_; rintro e W2 ⟨⟨v2, rfl, ho2⟩, hb2⟩; obtain ⟨a2, c2, rfl⟩ := ho2.shape; have k1 := HN1.out.below hb2; have k2 := HN2.out.below hb2; obtain ⟨c0, c1, f0, f1⟩ := k2.cells; obtain ⟨d0, d1, g0, g1⟩ := (k2.set1 (.slice a2 l.length c2)).cells; have k3 := k1.other (o := 1) (b' := w.heap.size + 1 + 1) (u := .slice a2 l.length c2) (by omega); obtain ⟨e0, e1, h0, h1⟩ := k3.cells; obtain ⟨-, i1, -, j1⟩ := (k3.set0 n).cells)
 exact bodyPost_ret (cC rfl rfl k3.set.load) rfl ⟨⟨_, rfl, _, _, rfl, (fW (b := w.heap.size + 1) (cv (b := w.heap.size + 1 + 1) (o := 1) ho2 (by have := HZ.out; omega) _) (by have := HZ.out; omega) _ _).lower (base' := w.heap.size) (by have := HZ.out; omega)⟩, bN (b := w.heap.size + 1) (bE (b := w.heap.size + 1 + 1) (ag HB.out hb2) (by omega) _) (by omega) _ _⟩
theorem wpList_append_run {P : Program} (w : World) {ops : Array Oper} {rest : List Oper} {o : Oper} {a : Act} {Q : Exit → Act → World → Prop} (hgd : o.guard = none) (s x : Operand) (t : TypeId)
  (ho : o.op = .call { callee := .builtin .append, args := #[s, x], argTypes := #[t, t] }) (v u v' : Value) (w' : World) (hs : a.eval s = v) (hx : a.eval x = u)
  (hr : (Builtin.append_ #[t, t] o.type #[v, u]).run P w = .ok v' w') (h : wpList P ops Q rest (a.put o.dst v') w') : wpList P ops Q (o :: rest) a w := by
 refine wpList_plain hgd fun K hK => ?_
 unfold Oper.wp execOp
 simp only [ho, resolve, invoke, builtin, Sem.run_bind, Sem.run_pure, Result.andThen_ok, List.map_toArray, List.map_cons, List.map_nil, hs, hx, hr]
 exact hK _ _ h
def XS (w : World) (v : Value) (ys : List cW) : Prop := ∃ a cap, v = .slice a ys.length cap ∧ (ys = [] ∨ ∃ b off, a = some ⟨b, off, none⟩ ∧ b < w.heap.size ∧ ∀ (j : Nat) (u : Value), (aw ys)[j]? = some u → w.cell? ⟨b, off + j, none⟩ = some u)
theorem cd {W : World} {base : Nat} {v u : Value} {l m : List cW} (ty : TypeId) (hown : bh W base v l) (hns : XS W u m) (hl : l.length + m.length ≤ 1000000) (hb : base ≤ W.heap.size) :
  ∃ v' W', (Builtin.append_ #[61, 61] ty #[v, u]).run Tryz.prog W = .ok v' W' ∧ bh W' base v' (l ++ m) ∧ W.grownBy W' v.ownBlock ∧ (v'.ownBlock = v.ownBlock ∨ v'.ownBlock = some W.heap.size) := by
 obtain ⟨i0, hi, hz0, hz1, hz2⟩ := info_parts Tryz.infoRow
 obtain ⟨a, cap, rfl, h⟩ := hns
 have go : ∀ (ad : Addr) (news : List Value), news = aw m → (∀ j u, news[j]? = some u → W.cell? (ad.add j) = some u) → ∃ v' W', (Builtin.append_ #[61, 61] ty #[v, .slice (some ad) m.length cap]).run Tryz.prog W = .ok v' W' ∧ bh W' base v' (l ++ m) ∧ W.grownBy W' v.ownBlock ∧ (v'.ownBlock = v.ownBlock ∨ v'.ownBlock = some W.heap.size) := by
  intro ad news hn hc
  obtain ⟨v', w', hr, h2, h3, _, h5⟩ := run_append_own_at (P := Tryz.prog) W base 61 ty 129 i0 _ 4 56 Tryz.underlying61 hi hz0 hz1 hz2 rfl (by decide) v l.length (aw l) hown ad m.length cap news (by subst hn; exact eA m) hc (by subst hn; exact flatW_cell m) (by unfold maxLen; omega) (by omega) hb
  refine ⟨v', w', hr, ?_, h3, h5⟩
  subst hn
  unfold bh
  rw [ky, List.length_append]
  exact h2
 rcases h with rfl | ⟨b, off, rfl, hb, hat⟩
 ·cases a with
  | none =>
   refine ⟨v, W, ?_, by rw [List.append_nil]; exact hown, World.grownBy.refl _ _, .inl rfl⟩
   rcases hown.2 with ⟨rfl, h0⟩ | ⟨g, cap', cur, rfl, _, _, hnc, _⟩
   ·simp [Builtin.append_, run_underlying Tryz.underlying61, sizeOf, typeInfo, hi, Builtin.lenOf, Builtin.firstCells]
   ·simp [Builtin.append_, run_underlying Tryz.underlying61, sizeOf, typeInfo, hi, Builtin.lenOf, Builtin.firstCells, hnc, storeCells]
  | some ad => exact go ad [] rfl (fun j u hj => by simp at hj)
 ·refine go ⟨b, off, none⟩ _ rfl fun j u hj => ?_
  rw [Addr.add_lit]
  exact hat j u hj
theorem bh.cell {w : World} {base g cap : Nat} {n : Nat} {xs : List cW} (h : bh w base (.slice (some ⟨g, 0, none⟩) n cap) xs) : g < w.heap.size ∧ n = xs.length ∧ xs.length ≤ cap ∧ ∀ (j : Nat) (u : Value), (aw xs)[j]? = some u → w.cell? ⟨g, j, none⟩ = some u := by
 rcases h.2 with ⟨h1, _⟩ | ⟨g', cap', cur, h1, _, hb, hn, _, hs, ht⟩
 ·cases h1
 ·injection h1 with e1 e2 e3
  injection e1 with e1
  injection e1 with e1
  subst e1 e2 e3
  refine ⟨(Array.getElem?_eq_some_iff.1 hb).1, rfl, hn, fun j u hj => ?_⟩
  have hjl : j < xs.length * 4 := by have := (List.getElem?_eq_some_iff.1 hj).1; rwa [eA] at this
  rw [← ht, List.getElem?_take_of_lt hjl] at hj
  simp only [World.cell?, hb]
  simpa using hj
theorem flatW_take (xs : List cW) (p : Nat) : aw (xs.take p) = (aw xs).take (p * 4) := by
 induction xs generalizing p with
 | nil => simp
 | cons a l ih =>
  cases p with
  | zero => simp
  | succ p =>
   rw [List.take_succ_cons]
   show cj a ++ aw (l.take p) = (cj a ++ aw l).take ((p + 1) * 4)
   have e1 : (p + 1) * 4 = (cj a).length + p * 4 := by simp [cj]; omega
   rw [ih, e1, List.take_length_add_append]
theorem flatW_drop (xs : List cW) (p : Nat) : aw (xs.drop p) = (aw xs).drop (p * 4) := by
 induction xs generalizing p with
 | nil => simp
 | cons a l ih =>
  cases p with
  | zero => simp
  | succ p =>
   rw [List.drop_succ_cons]
   show aw (l.drop p) = (cj a ++ aw l).drop ((p + 1) * 4)
   have e1 : (p + 1) * 4 = (cj a).length + p * 4 := by simp [cj]; omega
   rw [ih, e1, List.drop_length_add_append]
theorem XS.take {w : World} {base g cap n : Nat} {xs : List cW} (h : bh w base (.slice (some ⟨g, 0, none⟩) n cap) xs) (p : Nat) (hp : p ≤ xs.length) (cap' : Nat) : XS w (.slice (some ⟨g, 0, none⟩) p cap') (xs.take p) := by
 obtain ⟨h1, -, -, h2⟩ := h.cell
 refine ⟨_, cap', by simp [hp], .inr ⟨g, 0, rfl, h1, fun j u hj => ?_⟩⟩
 rw [flatW_take] at hj
 rw [Nat.zero_add]
 exact h2 j u (by
  have hlt := (List.getElem?_eq_some_iff.1 hj).1
  rw [List.length_take] at hlt
  rwa [List.getElem?_take_of_lt (by omega)] at hj)
theorem XS.drop {w : World} {base g cap n : Nat} {xs : List cW} (h : bh w base (.slice (some ⟨g, 0, none⟩) n cap) xs) (p : Nat) (hp : p ≤ xs.length) (cap' : Nat) : XS w (.slice (some ⟨g, p * 4, none⟩) (xs.length - p) cap') (xs.drop p) := by
 obtain ⟨h1, -, -, h2⟩ := h.cell
 refine ⟨_, cap', by simp, .inr ⟨g, p * 4, rfl, h1, fun j u hj => ?_⟩⟩
 rw [flatW_drop, List.getElem?_drop] at hj
 exact h2 _ u hj
theorem XS.new (w : World) (x : cW) : XS (w.alloc (.cells #[.int .i64 x.1.1, .string x.1.2, .int .i64 x.2.1, dD x.2.2] 129)) (.slice (some ⟨w.heap.size, 0, none⟩) 1 1) [x] := by
 refine ⟨_, 1, rfl, .inr ⟨w.heap.size, 0, rfl, by simp, fun j u hj => ?_⟩⟩
 have := jL w x.1.1 x.1.2 x.2.1 (dD x.2.2) 129 j u hj
 rwa [Addr.add_lit] at this
theorem loadRow {W : World} {b o : Nat} {a : Int} {t : ByteArray} {n : Int} {v : Value} (h0 : W.cell? ⟨b, o, none⟩ = some (.int .i64 a)) (h1 : W.cell? ⟨b, o + 1, none⟩ = some (.string t)) (h2 : W.cell? ⟨b, o + 2, none⟩ = some (.int .i64 n)) (h3 : W.cell? ⟨b, o + 3, none⟩ = some v) :
  (loadVar 129 ⟨b, o, none⟩).run Tryz.prog W = .ok (.agg #[.int .i64 a, .string t, .int .i64 n, v]) W := by
 have a30 := Tryz.isAgg129
 have z30 := Tryz.sizeOf129
 have hc := run_loadCells_list (P := Tryz.prog) W ⟨b, o, none⟩ [.int .i64 a, .string t, .int .i64 n, v] (fun j u hj => by
  match j, hj with
  | 0, hj => simp at hj; subst hj; simpa [Addr.add] using h0
  | 1, hj => simp at hj; subst hj; simpa [Addr.add] using h1
  | 2, hj => simp at hj; subst hj; simpa [Addr.add] using h2
  | 3, hj => simp at hj; subst hj; simpa [Addr.add] using h3)
 simp [loadVar, a30, z30]
 have hc' : (loadCells ⟨b, o, none⟩ 4).run Tryz.prog W = .ok #[.int .i64 a, .string t, .int .i64 n, v] W := hc
 rw [hc']
 rfl
def bF (W : World) (b : Nat) (x0 x1 x2 x3 : Value) : Prop := W.heap[b]? = some (.cells #[x0, x1, x2, x3] 129 (0, 0))
theorem bF.lt {W : World} {b : Nat} {x0 x1 x2 x3 : Value} (h : bF W b x0 x1 x2 x3) : b < W.heap.size := (Array.getElem?_eq_some_iff.1 h).1
theorem bF.new (W : World) (x0 x1 x2 x3 : Value) : bF (W.alloc (.cells #[x0, x1, x2, x3] 129)) W.heap.size x0 x1 x2 x3 := heap_alloc_new W _
theorem bF.below {W W' : World} {b : Nat} {x0 x1 x2 x3 : Value} (h : bF W b x0 x1 x2 x3) (hb : Below W.heap.size W W') : bF W' b x0 x1 x2 x3 := by unfold bF; rw [hb.block b h.lt]; exact h
theorem bF.cells {W : World} {b : Nat} {x0 x1 x2 x3 : Value} (h : bF W b x0 x1 x2 x3) : W.cell? ⟨b, 0, none⟩ = some x0 ∧ W.cell? ⟨b, 1, none⟩ = some x1 ∧ W.cell? ⟨b, 2, none⟩ = some x2 ∧ W.cell? ⟨b, 3, none⟩ = some x3 ∧ W.frozen? ⟨b, 0, none⟩ = false ∧ W.frozen? ⟨b, 1, none⟩ = false ∧ W.frozen? ⟨b, 2, none⟩ = false ∧ W.frozen? ⟨b, 3, none⟩ = false := by
 unfold bF at h
 refine ⟨?_, ?_, ?_, ?_, ?_, ?_, ?_, ?_⟩ <;> simp [World.cell?, World.frozen?, h]
theorem bF.set0 {W : World} {b : Nat} {x0 x1 x2 x3 : Value} (h : bF W b x0 x1 x2 x3) (u : Value) : bF (W.setCell ⟨b, 0, none⟩ u) b u x1 x2 x3 := by
 unfold bF at h ⊢
 simp [World.setCell, Array.getElem?_modify, h]
theorem bF.set1 {W : World} {b : Nat} {x0 x1 x2 x3 : Value} (h : bF W b x0 x1 x2 x3) (u : Value) : bF (W.setCell ⟨b, 1, none⟩ u) b x0 u x2 x3 := by
 unfold bF at h ⊢
 simp [World.setCell, Array.getElem?_modify, h]
theorem bF.set2 {W : World} {b : Nat} {x0 x1 x2 x3 : Value} (h : bF W b x0 x1 x2 x3) (u : Value) : bF (W.setCell ⟨b, 2, none⟩ u) b x0 x1 u x3 := by
 unfold bF at h ⊢
 simp [World.setCell, Array.getElem?_modify, h]
theorem bF.set3 {W : World} {b : Nat} {x0 x1 x2 x3 : Value} (h : bF W b x0 x1 x2 x3) (u : Value) : bF (W.setCell ⟨b, 3, none⟩ u) b x0 x1 x2 u := by
 unfold bF at h ⊢
 simp [World.setCell, Array.getElem?_modify, h]
theorem bF.other {W : World} {b b' o : Nat} {x0 x1 x2 x3 u : Value} (h : bF W b x0 x1 x2 x3) (hne : b ≠ b') : bF (W.setCell ⟨b', o, none⟩ u) b x0 x1 x2 x3 := by
 unfold bF at h ⊢
 rw [Below.heap_setCell _ _ _ _ (by show b ≠ b'; exact hne)]
 exact h
theorem bF.load {W : World} {b : Nat} {a : Int} {t : ByteArray} {n : Int} {v : Value} (h : bF W b (.int .i64 a) (.string t) (.int .i64 n) v) : (loadVar 129 ⟨b, 0, none⟩).run Tryz.prog W = .ok (.agg #[.int .i64 a, .string t, .int .i64 n, v]) W := loadRow h.cells.1 h.cells.2.1 h.cells.2.2.1 h.cells.2.2.2.1
theorem ff (k : Ky) (n : Int) (l : List Int) (a : Option Addr) (cap : Nat) (w : World) (h : NS w (.slice a l.length cap) l) (hl : l.length ≤ 100000) :
  Calls Tryz.prog 145 #[.agg #[.int .i64 k.1, .string k.2, .int .i64 n, .slice a l.length cap]] w fun e w' => (∃ s : Sl, e = .returned (.agg #[.int .i64 k.1, .string k.2, .int .i64 n, dD s]) ∧ ay w' w.heap.size (dD s) l) ∧ Below w.heap.size w w' := by
 obtain ⟨ka, kb⟩ := k
 have H := ae (fun W (hW : Below w.heap.size w W) => copycell_any _ (n, l) W ⟨a, cap, rfl, h.below hW⟩ hl)
 simp only
 have st : ∀ (W : World) (o : Obj), Below W.heap.size W (W.alloc o) := fun W o => (Below.refl _ _).alloc (Nat.le_refl _) _
 obtain ⟨W3, hW3⟩ : ∃ W3 : World, W3 = ((w.alloc (.cells #[.int .i64 ka, .string kb, .int .i64 n, .slice a l.length cap] 129)).alloc (.cells #[.int .i64 0, .string ⟨#[]⟩, .int .i64 0, .slice none 0 0] 129)).alloc (.cells #[.int .i64 ka, .string kb, .int .i64 n, .slice a l.length cap] 129) := ⟨_, rfl⟩
 have hb3 : Below w.heap.size w W3 := by rw [hW3]; exact ag (ag (st _ _) (st _ _)) (st _ _)
 have hs3 : W3.heap.size = w.heap.size + 3 := by rw [hW3]; simp
 have B1 : bF W3 (w.heap.size + 1) (.int .i64 0) (.string ⟨#[]⟩) (.int .i64 0) (.slice none 0 0) := by
  have := (bF.new (w.alloc (.cells #[.int .i64 ka, .string kb, .int .i64 n, .slice a l.length cap] 129)) (.int .i64 0) (.string ⟨#[]⟩) (.int .i64 0) (.slice none 0 0)).below (st _ (.cells #[.int .i64 ka, .string kb, .int .i64 n, .slice a l.length cap] 129))
  rw [hW3]
  simpa using this
 have B2 : bF W3 (w.heap.size + 2) (.int .i64 ka) (.string kb) (.int .i64 n) (.slice a l.length cap) := by
  have := bF.new ((w.alloc (.cells #[.int .i64 ka, .string kb, .int .i64 n, .slice a l.length cap] 129)).alloc (.cells #[.int .i64 0, .string ⟨#[]⟩, .int .i64 0, .slice none 0 0] 129)) (.int .i64 ka) (.string kb) (.int .i64 n) (.slice a l.length cap)
  rw [hW3]
  simpa using this
 have HW := ae hW3.symm
 have HB := ae hb3
 have HB1 := ae B1
 have HB2 := ae B2
 clear hW3 B1 B2 st
 go_enter Tryz.func145, Tryz.ntmps145
 go_wp2_with (go_at_call 184; rw [HW.out]; refine (H.out _ HB.out).mono ?_; rintro e W4 ⟨⟨v4, rfl, a4, c4, rfl, ho4⟩, hb4⟩; have B2 := HB2.out.below hb4; have B1 := HB1.out.below hb4; obtain ⟨p0, p1, p2, p3, f0, f1, f2, f3⟩ := B2.cells; obtain ⟨-, -, -, q3, -, -, -, g3⟩ := (B2.set2 (.int .i64 n)).cells; have B2' := (B2.set2 (.int .i64 n)).set3 (.slice a4 l.length c4); obtain ⟨s0, s1, s2, s3, -⟩ := B2'.cells; have B1' := (B1.other (b' := w.heap.size + 2) (o := 2) (u := .int .i64 n) (by omega)).other (b' := w.heap.size + 2) (o := 3) (u := .slice a4 l.length c4) (by omega); obtain ⟨t0, -, -, -, u0, -⟩ := B1'.cells; have B11 := B1'.set0 (.int .i64 ka); obtain ⟨-, t1, -, -, -, u1, -⟩ := B11.cells; have B12 := B11.set1 (.string kb); obtain ⟨-, -, t2, -, -, -, u2, -⟩ := B12.cells; have B13 := B12.set2 (.int .i64 n); obtain ⟨-, -, -, t3, -, -, -, u3⟩ := B13.cells; have B14 := B13.set3 (.slice a4 l.length c4))
 have o4 : ay W4 W3.heap.size (.slice a4 l.length c4) l := ho4
 have l1 : w.heap.size + 1 < W3.heap.size := by omega
 have l2 : w.heap.size + 1 + 1 < W3.heap.size := by omega
 exact bodyPost_ret (cC rfl rfl B14.load) rfl ⟨⟨(a4, l.length, c4), rfl, (cv (cv (cv (cv (cv (cv o4 l2 _) l2 _) l1 _) l1 _) l1 _) l1 _).lower (by omega)⟩,
  bE (bE (bE (bE (bE (bE (ag HB.out hb4) (by omega) _) (by omega) _) (by omega) _) (by omega) _) (by omega) _) (by omega) _⟩
def dW (l : List Rw) (k : Ky) : Bool := decide (l.length < 1536) && (match l.getLast? with | none => true | some r => dk r.1 k)
theorem last_at {l : List Rw} (h : 0 < l.length) : ∃ r, l[l.length - 1]? = some r ∧ l.getLast? = some r := by
 obtain ⟨r, hr⟩ := ak (l := l) (i := l.length - 1) (by omega)
 exact ⟨r, hr, by rw [List.getLast?_eq_getElem?]; exact hr⟩
theorem iE (v : Value) (l : List Rw) (k : Ky) (w : World) (h : WS w v l) (hl : l.length ≤ 100000) :
  Calls Tryz.prog 81 #[v, iy k] w (jI w (dW l k)) := by
 obtain ⟨ka, kb⟩ := k
 obtain ⟨a, cap, rfl, hsh⟩ := h
 have hst : ∀ (W : World) (o : Obj), Below W.heap.size W (W.alloc o) := fun W o => (Below.refl _ _).alloc (Nat.le_refl _) _
 have hb0 := hst w (.cells #[.int .i64 ka, .string kb] 124)
 simp only [iy]
 unfold dW
 by_cases hm : l.length < 1536
 ·have hm' : (l.length : Int) < 1536 := by omega
  rw [decide_eq_true hm, Bool.true_and]
  by_cases h0 : l.length = 0
  ·have : l = [] := List.length_eq_zero_iff.1 h0
   subst this
   have HB := ae hb0
   clear hsh hst hb0
   go_enter Tryz.func81, Tryz.ntmps81
   go_wp2
   go_quiet (fail)
   go_wp2
   go_ret
   exact ⟨rfl, ag HB.out (ec.below ⟨_, rfl⟩ _)⟩
  ·obtain ⟨⟨⟨xa, xb⟩, xn, xl⟩, hr, hla⟩ := last_at (l := l) (by omega)
   rw [hla]
   rcases hsh with rfl | ⟨b, off, rfl, hb, hat⟩
   ·simp at h0
   obtain ⟨W0, hW0⟩ : ∃ W0 : World, W0 = w.alloc (.cells #[.int .i64 ka, .string kb] 124) := ⟨_, rfl⟩
   rw [← hW0] at hb0
   have hbk : W0.heap[w.heap.size]? = some (.cells #[.int .i64 ka, .string kb] 124 (0, 0)) := by rw [hW0]; exact heap_alloc_new w _
   have hk := (Array.getElem?_eq_some_iff.1 hbk).1
   obtain ⟨m, hm1⟩ : ∃ m, l.length = m + 1 := ⟨l.length - 1, by omega⟩
   rw [show l.length - 1 = m by omega] at hr
   obtain ⟨c0, c1, -⟩ := (hat.below hb0 hb) m _ hr
   have hb' : b < W0.heap.size := by omega
   have HS := ae (show ∀ W, Below W0.heap.size W0 W → W.cell? ⟨b, off + m * 4, none⟩ = some (.int .i64 xa) ∧ W.cell? ⟨b, off + m * 4 + 1, none⟩ = some (.string xb) ∧ W.cell? ⟨w.heap.size, 0, none⟩ = some (.int .i64 ka) ∧ W.cell? ⟨w.heap.size, 1, none⟩ = some (.string kb) from fun W hW => by
    obtain ⟨q0, q1⟩ := blk2 ((hW.block w.heap.size hk).trans hbk)
    exact ⟨(hW.cell (p := ⟨b, _, none⟩) hb').trans c0, (hW.cell (p := ⟨b, _, none⟩) hb').trans c1, q0, q1⟩)
   have HC := ae (fun W => kcmp_any (xa, xb) (ka, kb) W)
   have hneg := cfK_lt0 (xa, xb) (ka, kb)
   obtain ⟨cf, hcf⟩ : ∃ cf : Int, cf = cfK (xa, xb) (ka, kb) := ⟨_, rfl⟩
   rw [← hcf] at HC hneg
   have HNEG := ae hneg
   have HW := ae hW0.symm
   have HB := ae hb0
   have HL := ae hm1
   have h0' : ¬ ((l.length : Int) = 0) := by omega
   have hsub : (l.length : Int) - 1 = (m : Int) := by omega
   have hd1 : decide ((l.length : Int) < 1536) = true := decide_eq_true hm'
   have hd2 : decide ((l.length : Int) = 0) = false := decide_eq_false h0'
   have hd3 : ((l.length : Int) == 0) = false := beq_eq_false_iff_ne.2 h0'
   have hmlt : m < l.length := by omega
   have hwr : IntKind.i64.wrap ((l.length : Int) - 1) = (m : Int) := by rw [IntKind.wrap_i64]; omega
   have hm0 : (0 : Int) ≤ (m : Int) := by omega
   have hmi : (m : Int) < (l.length : Int) := by omega
   clear hm1 hW0 hbk hat c0 c1 hb0 hst hcf hneg hr hla hsub
   go_enter Tryz.func81, Tryz.ntmps81
   go_wp2_with fail
   rw [HW.out]
   go_region_held3 (fun W => W.cell? ⟨b, off + m * 4, none⟩ = some (.int .i64 xa) ∧ W.cell? ⟨b, off + m * 4 + 1, none⟩ = some (.string xb) ∧ W.cell? ⟨w.heap.size, 0, none⟩ = some (.int .i64 ka) ∧ W.cell? ⟨w.heap.size, 1, none⟩ = some (.string kb))
    (first | exact HS.out _ (Below.refl _ _).drew | exact HS.out _ (mx _ _ _))
    (first | (go_at_call 125; refine (HC.out _).mono ?_; rintro e W3 ⟨rfl, q3, os3, rfl⟩))
   have hneg := HNEG.out
   go_wp2
   go_ret
   exact ⟨by rw [← hneg]; rfl, ag HB.out (mx _ _ _)⟩
 ·have hm' : ¬ (l.length : Int) < 1536 := by omega
  have hd1 : decide ((l.length : Int) < 1536) = false := decide_eq_false hm'
  rw [decide_eq_false hm, Bool.false_and]
  have HB := ae hb0
  clear hsh hst hb0
  go_enter Tryz.func81, Tryz.ntmps81
  go_wp2
  go_quiet (fail)
  go_wp2
  go_ret
  exact ⟨rfl, ag HB.out (ec.below ⟨_, rfl⟩ _)⟩
theorem aQ.cap {w : World} {base : Nat} {v : Value} {l : List Rw} (h : aQ w base v l) : iD v := by
 obtain ⟨xs, hx, -⟩ := h
 rcases hx.2 with ⟨rfl, -⟩ | ⟨g, cap, cur, rfl, -, -, hn, -⟩
 ·exact Nat.le_refl _
 ·exact hn
def ce (agg bound : Int) (l : List Rw) : Bool := aJ agg bound && (decide (l.length ≤ 1536) && l.all (fun r => decide (r.1.2.size ≤ 64) && fd agg bound r.2) && decide (aZ l))
structure kC (agg bound : Int) (l : List Rw) (k : Nat) : Prop where
 all : ∀ r ∈ l.take k, r.1.2.size ≤ 64 ∧ fd agg bound r.2 = true
 rise : aZ (l.take k)
 len : k ≤ 1536
theorem kC.start (agg bound : Int) (l : List Rw) : kC agg bound l 0 := ⟨by simp, by simp [aZ], by omega⟩
theorem rise_snocK {l : List Rw} {r : Rw} (h : aZ l) (hl : ∀ x, l.getLast? = some x → dk x.1 r.1 = true) : aZ (l ++ [r]) := by
 unfold aZ
 rw [List.pairwise_append]
 refine ⟨h, by simp, fun a ha b hb => ?_⟩
 simp at hb
 subst hb
 obtain ⟨i, hi⟩ := List.getElem?_of_mem ha
 obtain ⟨x, hx, hx'⟩ := last_at (l := l) (by have := (List.getElem?_eq_some_iff.1 hi).1; omega)
 have hlt := hl x hx'
 have hil := (List.getElem?_eq_some_iff.1 hi).1
 by_cases e : i = l.length - 1
 ·rw [e, hx] at hi
  injection hi with hi
  rw [← hi]
  exact hlt
 ·obtain ⟨h1, rfl⟩ := List.getElem?_eq_some_iff.1 hi
  obtain ⟨h2, rfl⟩ := List.getElem?_eq_some_iff.1 hx
  exact cB ((List.pairwise_iff_getElem.1 h) i (l.length - 1) h1 h2 (by omega)) hlt
theorem kC.step {agg bound : Int} {l : List Rw} {k : Nat} {r : Rw} (h : kC agg bound l k) (hr : l[k]? = some r) (h1 : r.1.2.size ≤ 64) (h2 : fd agg bound r.2 = true) (h3 : dW (l.take k) r.1 = true) : kC agg bound l (k + 1) := by
 have hstep : l.take (k + 1) = l.take k ++ [r] := by rw [List.take_add_one, hr]; rfl
 have hkl := (List.getElem?_eq_some_iff.1 hr).1
 unfold dW at h3
 rw [Bool.and_eq_true, decide_eq_true_eq, List.length_take, Nat.min_eq_left (by omega)] at h3
 refine ⟨fun x hx => ?_, ?_, by omega⟩
 ·rw [hstep] at hx
  rcases List.mem_append.1 hx with hx | hx
  ·exact h.all x hx
  ·simp at hx; subst hx; exact ⟨h1, h2⟩
 ·rw [hstep]
  refine rise_snocK h.rise fun x hx => ?_
  have := h3.2
  rw [hx] at this
  exact this
theorem kC.fin {agg bound : Int} {l : List Rw} {k : Nat} (h : kC agg bound l k) (hw : aJ agg bound = true) (hk : l.length ≤ k) : ce agg bound l = true := by
 obtain ⟨h1, h2, h3⟩ := h
 rw [List.take_of_length_le hk] at h1 h2
 unfold ce
 rw [hw, Bool.true_and, Bool.and_eq_true, Bool.and_eq_true, decide_eq_true_eq, decide_eq_true_eq, List.all_eq_true]
 exact ⟨⟨by omega, fun r hr => by rw [Bool.and_eq_true, decide_eq_true_eq]; exact h1 r hr⟩, h2⟩
theorem cT {agg bound : Int} {l : List Rw} (h : ce agg bound l = true) : aJ agg bound = true ∧ l.length ≤ 1536 ∧ (∀ r ∈ l, r.1.2.size ≤ 64 ∧ fd agg bound r.2 = true) ∧ aZ l := by
 unfold ce at h
 rw [Bool.and_eq_true, Bool.and_eq_true, Bool.and_eq_true, decide_eq_true_eq, decide_eq_true_eq, List.all_eq_true] at h
 exact ⟨h.1, h.2.1.1, fun r hr => by have := h.2.1.2 r hr; rwa [Bool.and_eq_true, decide_eq_true_eq] at this, h.2.2⟩
theorem kC.bad {agg bound : Int} {l : List Rw} {k : Nat} {r : Rw} (h : kC agg bound l k) (hr : l[k]? = some r) (hb : ¬ (r.1.2.size ≤ 64 ∧ fd agg bound r.2 = true ∧ dW (l.take k) r.1 = true)) : ce agg bound l = false := by
 cases ho : ce agg bound l with
 | false => rfl
 | true =>
  exfalso
  obtain ⟨_, h1, h2, h3⟩ := cT ho
  have hkl := (List.getElem?_eq_some_iff.1 hr).1
  refine hb ⟨(h2 r (List.mem_of_getElem? hr)).1, (h2 r (List.mem_of_getElem? hr)).2, ?_⟩
  unfold dW
  rw [Bool.and_eq_true, decide_eq_true_eq, List.length_take, Nat.min_eq_left (by omega)]
  refine ⟨by omega, ?_⟩
  cases hg : (l.take k).getLast? with
  | none => rfl
  | some x =>
   have hx := hg
   rw [List.getLast?_eq_getElem?, List.length_take, Nat.min_eq_left (by omega)] at hx
   have hk0 : 0 < k := by
    rcases Nat.eq_zero_or_pos k with e | e
    ·rw [e] at hx; simp at hx
    ·exact e
   rw [List.getElem?_take_of_lt (by omega)] at hx
   obtain ⟨q1, rfl⟩ := List.getElem?_eq_some_iff.1 hx
   obtain ⟨q2, rfl⟩ := List.getElem?_eq_some_iff.1 hr
   exact (List.pairwise_iff_getElem.1 h3) (k - 1) k q1 q2 (by omega)
theorem WS.take {w : World} {a : Option Addr} {cap : Nat} {l : List Rw} (h : WS w (.slice a l.length cap) l) (k : Nat) (hk : k ≤ l.length) (cap' : Nat) : WS w (.slice a k cap') (l.take k) := by
 obtain ⟨a', c', e, h⟩ := h
 injection e with e1 e2 e3
 subst e1
 refine ⟨a, cap', by simp [hk], ?_⟩
 rcases h with rfl | ⟨b, off, rfl, hb, hat⟩
 ·exact .inl (by simp)
 ·refine .inr ⟨b, off, rfl, hb, fun i r hr => hat i r ?_⟩
  have hi := (List.getElem?_eq_some_iff.1 hr).1
  rw [List.length_take] at hi
  rwa [List.getElem?_take_of_lt (by omega)] at hr
theorem og (agg bound : Int) (v : Value) (l : List Rw) (w : World) (h : WS w v l) (hls : ∀ r ∈ l, r.2.2.length ≤ 100000) (hcap : iD v) (hok0 : ce agg bound l = true) :
  Calls Tryz.prog 43 #[.int .i64 agg, .int .i64 bound, v] w fun e w' => e = .returned (.int .i64 0) ∧ Below w.heap.size w w' := by
 have H1 := ae (fun W => my agg bound W)
 have HS := ae h
 obtain ⟨a, cap, rfl, hsh⟩ := h
 obtain ⟨hw, hl, hkc, hri⟩ := cT hok0
 ·rw [hw] at H1
  go_enter Tryz.func43, Tryz.ntmps43
  go_wp2_with (go_at_call 78; refine (H1.out _).mono ?_; rintro e W1 ⟨rfl, hb1⟩)
  go_loopw [15] (fun i wr => ∃ k : Nat, k ≤ l.length ∧ i = .int .i64 k ∧ kC agg bound l k ∧ Below w.heap.size w wr) (fun i _ => l.length - (intOf i).toNat)
  case atStart => exact ⟨0, by omega, rfl, kC.start _ _ _, hb1⟩
  case round =>
   clear hb1
   rename World => w0
   obtain ⟨k, hk, rfl, hok, hbel⟩ := hrel
   have hsz := hbel.size
   by_cases hlt : k < l.length
   ·obtain ⟨⟨⟨ya, yb⟩, yn, yl⟩, hy⟩ := ak hlt
    rcases hsh with rfl | ⟨b, off, rfl, hb, hat⟩
    ·simp at hlt
    have hyl : yl.length ≤ 100000 := hls _ (List.mem_of_getElem? hy)
    obtain ⟨c0, c1, c2, s1, p1, c3, n1⟩ := (hat.below hbel hb) k _ hy
    simp only at c0 c1 c2 c3 n1
    obtain ⟨Wa, hWa⟩ : ∃ Wa : World, Wa = w0.alloc (.cells #[.int .i64 ya, .string yb, .int .i64 yn, .slice s1 yl.length p1] 129) := ⟨_, rfl⟩
    have hba : Below w0.heap.size w0 Wa := by rw [hWa]; exact (Below.refl _ _).alloc (Nat.le_refl _) _
    have B4 : bF Wa w0.heap.size (.int .i64 ya) (.string yb) (.int .i64 yn) (.slice s1 yl.length p1) := by rw [hWa]; exact bF.new w0 _ _ _ _
    have HA := ae hWa.symm
    have HR := ae (show ∀ W, Below Wa.heap.size Wa W → W.cell? ⟨w0.heap.size, 0, none⟩ = some (.int .i64 ya) ∧ W.cell? ⟨w0.heap.size, 1, none⟩ = some (.string yb) ∧ W.cell? ⟨w0.heap.size, 2, none⟩ = some (.int .i64 yn) ∧ W.cell? ⟨w0.heap.size, 3, none⟩ = some (.slice s1 yl.length p1) ∧ Below Wa.heap.size Wa W from fun W hW =>
     ⟨(B4.below hW).cells.1, (B4.below hW).cells.2.1, (B4.below hW).cells.2.2.1, (B4.below hW).cells.2.2.2.1, hW⟩)
    have hbw : Below w.heap.size w Wa := hbel.trans (hba.mono hsz)
    have HC1 := ae (fun W => eH (ya, yb) W)
    have HC2 := ae (fun W (hW : Below Wa.heap.size Wa W) => eB agg bound _ (yn, yl) W ⟨s1, p1, rfl, (n1.below hba).below hW⟩ hyl)
    have HC3 := ae (fun W (hW : Below Wa.heap.size Wa W) => iE (.slice (some ⟨b, off, none⟩) k cap) (l.take k) (ya, yb) W (WS.take (HS.out.below (ag hbw hW)) k (by omega) cap) (by simp; omega))
    have HBW := ae hbw
    have hkc' : k ≤ cap := Nat.le_trans hk hcap
    have hkl : k ≤ l.length := hk
    have HST := ae (fun (h1 : yb.size ≤ 64) (h2 : fd agg bound (yn, yl) = true) (h3 : dW (l.take k) (ya, yb) = true) => hok.step hy h1 h2 h3)
    have hq : yb.size ≤ 64 ∧ fd agg bound (yn, yl) = true ∧ dW (l.take k) (ya, yb) = true := by
     by_cases h : yb.size ≤ 64 ∧ fd agg bound (yn, yl) = true ∧ dW (l.take k) (ya, yb) = true
     ·exact h
     ·have := hok.bad hy h
      rw [hok0] at this
      cases this
    obtain ⟨hq1, hq2, hq3⟩ := hq
    clear hWa hbel hat n1 hba hbw B4 hy hok hcap
    rw [if_pos (show (ya, yb).2.size ≤ 64 from hq1)] at HC1
    rw [hq2, show iz true = 0 from rfl] at HC2
    rw [hq3] at HC3
    have HO := ae (HST.out hq1 hq2 hq3)
    clear hq1 hq2 hq3 HST hok0 hkc hri
    go_wp2_with fail
    rw [HA.out]
    go_region_held3 (fun W => W.cell? ⟨w0.heap.size, 0, none⟩ = some (.int .i64 ya) ∧ W.cell? ⟨w0.heap.size, 1, none⟩ = some (.string yb) ∧ W.cell? ⟨w0.heap.size, 2, none⟩ = some (.int .i64 yn) ∧ W.cell? ⟨w0.heap.size, 3, none⟩ = some (.slice s1 yl.length p1) ∧ Below Wa.heap.size Wa W)
     (first | exact HR.out _ (Below.refl _ _).drew | exact HR.out _ (ag (Below.refl Wa.heap.size Wa).drew hb1) | exact HR.out _ (ag (ag (Below.refl Wa.heap.size Wa).drew hb1) hb2) | exact HR.out _ (ag (ag (ag (Below.refl Wa.heap.size Wa).drew hb1) hb2) hb3))
     (first
      | (go_at_call 79; refine (HC1.out _).mono ?_; rintro e W1 ⟨rfl, hb1⟩)
      | (go_at_call 80; refine (HC2.out _ (‹_ ∧ _ ∧ _ ∧ _ ∧ Below Wa.heap.size Wa _›).2.2.2.2).mono ?_; rintro e W2 ⟨rfl, hb2⟩)
      | (go_at_call 81; refine (HC3.out _ (‹_ ∧ _ ∧ _ ∧ _ ∧ Below Wa.heap.size Wa _›).2.2.2.2).mono ?_; rintro e W3 ⟨rfl, hb3⟩))
    go_wp2
    go_roundw
    case rel => exact ⟨k + 1, by omega, by go_num, HO.out, ag HBW.out (ag (ag (ag (Below.refl Wa.heap.size Wa).drew hb1) hb2) hb3)⟩
    case measure => simp [intOf]; omega
   ·have hlt' : l.length ≤ k := by omega
    go_wp2
    go_ret
    exact ⟨rfl, hbel⟩
def fg (agg : Int) (r : Rw) : ByteArray := aT r.1 ++ ci agg r.2
def an (agg : Int) : List Rw → ByteArray
 | [] => ⟨#[]⟩
 | r :: l => fg agg r ++ an agg l
theorem ld (agg : Int) (l : List Rw) (r : Rw) : an agg (l ++ [r]) = an agg l ++ fg agg r := by
 induction l with
 | nil =>
  show fg agg r ++ ⟨#[]⟩ = ⟨#[]⟩ ++ fg agg r
  apply bT
  simp [ByteArray.data_append]
 | cons a l ih =>
  show fg agg a ++ an agg (l ++ [r]) = fg agg a ++ an agg l ++ fg agg r
  rw [ih]
  apply bT
  simp [ByteArray.data_append]
theorem oh (n : Int) : 1 ≤ (bytesOf n).size := by
 rw [jz]
 unfold ix
 split <;> simp
theorem mB {agg : Int} {r : Rw} (hk : r.1.2.size ≤ 64) (hc : r.2.2.length ≤ 32) : 1 ≤ (fg agg r).size ∧ (fg agg r).size ≤ 500 := by
 unfold fg aT
 simp only [ByteArray.size_append]
 have h1 := aN r.1.1
 have h2 := aN (r.1.2.size : Int)
 have h3 := cBytes_len (agg := agg) (c := r.2)
 have h4 := oh r.1.1
 omega
theorem lh {agg : Int} : ∀ {l : List Rw}, (∀ r ∈ l, r.1.2.size ≤ 64 ∧ r.2.2.length ≤ 32) → (an agg l).size ≤ 500 * l.length
 | [], _ => Nat.le_refl 0
 | r :: l, h => by
  have h1 := lh (agg := agg) (l := l) (fun x hx => h x (by simp [hx]))
  have h2 := mB (agg := agg) (h r (by simp)).1 (h r (by simp)).2
  show (fg agg r ++ an agg l).size ≤ _
  rw [ByteArray.size_append, List.length_cons]
  omega
end Go.Proofs.YtclcgakfmcofaaaGreatDoor
namespace Go.Proofs.YtclcgakfmcofaaaGreatDoor
open Go.RowKit Go.Shelf
shelf_lay Lays.n169 Nm 169 at Tryz as Tryz.lays169
theorem Tryz.Builder_Extra_169 : Builder.Extra Tryz.prog Tryz.lays169_ren where
 sizeBuilder := by kernel_rfl
 liesBuilder := by kernel_rfl
 t5 := Tryz.underlying5
 a5 := Tryz.isAgg5
 z5 := Tryz.sizeOf5
 v5 := Tryz.zeroValue5
 infoByte := by kernel_rfl
 cellsByte := by kernel_rfl
 sizeByte := by kernel_rfl
 neB5 := by decide
def Bld (B b : Nat) (s : ByteArray) (w : World) : Prop := Lib.IsBuilder 70 5 B b (Lib.strCells s) w
theorem owns_below {w w' : World} {base n size : Nat} {e : TypeId} {v : Value} {xs : List Value} (h : w.ownsRow base e size v n xs) (hb : Below w.heap.size w w') : w'.ownsRow base e size v n xs := by
 refine ⟨h.1, ?_⟩
 rcases h.2 with ⟨h1, h2⟩ | ⟨g, cap, cur, h1, h2, h3, h4⟩
 ·exact .inl ⟨h1, h2⟩
 ·exact .inr ⟨g, cap, cur, h1, h2, by rw [hb.block g (Array.getElem?_eq_some_iff.1 h3).1]; exact h3, h4⟩
theorem oj {T e : TypeId} {B b : Nat} {p : Value} {bs : List Value} {w w' : World} (h : Lib.BuilderAt T e B b p bs w) (hb : Below w.heap.size w w') : Lib.BuilderAt T e B b p bs w' := by
 have hlt := h.lt
 obtain ⟨h1, v, h2, h3, h4⟩ := h
 exact ⟨h1, v, by rw [hb.block b hlt]; exact h2, owns_below h3 hb, h4⟩
theorem Bld.below {B b : Nat} {s : ByteArray} {w w' : World} (h : Bld B b s w) (hb : Below w.heap.size w w') : Bld B b s w' := by
 rcases h with h | h
 ·exact .inl (oj h hb)
 ·exact .inr (oj h hb)
theorem Bld.new (w : World) : Bld w.heap.size w.heap.size ⟨#[]⟩ (w.alloc (.cells #[.pointer none, .slice none 0 0] 70)) := Lib.fresh_isBuilder _ _ w
theorem Tryz.sizeBuilder : (Tryz.prog.info? 70).map (·.size) = some 2 := by kernel_rfl
theorem Tryz.liesBuilder : liesAt Tryz.prog Tryz.prog.depth 70 (2 / Tryz.prog.cellsOf 70) 0 70 1 = true := by kernel_rfl
theorem Tryz.infoByte : (Tryz.prog.info? 5).map (fun i => (i.zero, i.size, i.bytes)) = some (some (.int .u8 0), 1, 1) := by kernel_rfl
theorem bcheck_used (b : Nat) (w : World) (h0 : w.cell? ⟨b, 0, none⟩ = some (.pointer (some ⟨b, 0, none⟩))) :
  Calls Tryz.prog 76 #[.pointer (some ⟨b, 0, none⟩)] w fun e w' => e = .returned (.tuple #[]) ∧ w' = w := by
 obtain ⟨j, hj, _⟩ := Option.map_eq_some_iff.1 Tryz.sizeBuilder
 go_enter Tryz.func76, Tryz.ntmps76
 go_wp2
 rw [Lib.run_neq_ptr_same w _ Tryz.underlying67 hj]
 go_wp2
 go_end0
 exact ⟨rfl, rfl⟩
theorem bcheck_new (b : Nat) (w : World) (h0 : w.cell? ⟨b, 0, none⟩ = some (.pointer none)) (hsh : w.shape? b = some (70, 2)) (hfz : w.frozen? ⟨b, 0, none⟩ = false) :
  Calls Tryz.prog 76 #[.pointer (some ⟨b, 0, none⟩)] w fun e w' => e = .returned (.tuple #[]) ∧ w' = w.setCell ⟨b, 0, none⟩ (.pointer (some ⟨b, 0, none⟩)) := by
 obtain ⟨j, hj, hjs⟩ := Option.map_eq_some_iff.1 Tryz.sizeBuilder
 have hto := Lib.run_to_unsafe w ⟨b, 0, none⟩ Tryz.underlying67 Tryz.underlying197 hj (by rw [hjs]; decide) hsh (Nat.zero_lt_succ 1)
 have hfrom := Lib.run_from_unsafe w ⟨b, 0, none⟩ Tryz.underlying197 Tryz.underlying67 hj hsh Tryz.liesBuilder
 go_enter Tryz.func76, Tryz.ntmps76
 go_wp2
 rw [run_callFunc_extern Tryz.func122 (by kernel_rfl) (by kernel_rfl) (by kernel_rfl) (e := Extern.AbiNoEscape.same) (by kernel_rfl), Lib.run_noEscape, Result.andThen, Oper.upon_value]
 go_wp2
 go_end0
 exact ⟨rfl, rfl⟩
theorem bcheck_any (B b : Nat) (s : ByteArray) (w : World) (h : Bld B b s w) :
  Calls Tryz.prog 76 #[.pointer (some ⟨b, 0, none⟩)] w fun e w' => e = .returned (.tuple #[]) ∧ Lib.BuilderAt 70 5 B b (.pointer (some ⟨b, 0, none⟩)) (Lib.strCells s) w' ∧ Below B w w' := by
 rcases h with h | h
 ·exact (bcheck_new b w h.cell0 h.shape h.frozen0).mono fun e w' ⟨he, hw⟩ => ⟨he, by rw [hw]; exact h.used _, by rw [hw]; exact (Below.refl B w).setCell (p := ⟨b, 0, none⟩) h.1 _⟩
 ·exact (bcheck_used b w h.cell0).mono fun e w' ⟨he, hw⟩ => ⟨he, by rw [hw]; exact h, by rw [hw]; exact Below.refl B _⟩
theorem iT (B b : Nat) (s t : ByteArray) (w : World) (h : Bld B b s w) (hlen : s.size + t.size ≤ 140737488355328) (hBw : B ≤ w.heap.size) :
  Calls Tryz.prog 34 #[.pointer (some ⟨b, 0, none⟩), .string t] w fun e w' => e = .returned (.tuple #[.int .i64 t.size, .nilIface]) ∧ Bld B b (s ++ t) w' ∧ Below B w w' := by
 obtain ⟨i0, hi, hz0, hz1, hz2⟩ := info_parts Tryz.infoByte
 have hst : Lib.strCells (s ++ t) = Lib.strCells s ++ Lib.strCells t := by simp [Lib.strCells, ByteArray.data_append]
 go_enter Tryz.func34, Tryz.ntmps34
 go_wp2_with fail
 refine (bcheck_any B b s w h).mono ?_
 rintro e w1 ⟨rfl, hat, hb1⟩
 have hlt := hat.lt
 have c0 := hat.cell0
 obtain ⟨hB, v, hbk, hown, hne⟩ := hat
 have c1 : w1.cell? ⟨b, 1, none⟩ = some v := by rw [Lib.cell_of_heap hbk]; rfl
 have hz := Nat.le_trans hBw hb1.size
 have hls := Lib.strCells_length s
 go_wp2_with (at_builtin; refine Lib.wpList_append_own_string _ rfl _ _ 68 9 rfl B 5 i0 Tryz.underlying68 Tryz.underlying9 hi hz0 hz1 hz2 _ _ _ rfl hown t rfl ?c3 ?c4 ?c5 ?_)
 case c3 => unfold maxLen; omega
 case c4 => omega
 case c5 => omega
 intro v2 w2 hown2 hgrow _
 have hb2 : w2.heap[b]? = some (.cells #[.pointer (some ⟨b, 0, none⟩), v] 70 (0, 0)) := (hgrow.block b hlt (fun e => hne e.symm)).trans hbk
 have d0 : w2.cell? ⟨b, 0, none⟩ = some (.pointer (some ⟨b, 0, none⟩)) := by rw [Lib.cell_of_heap hb2]; rfl
 have d1 : w2.cell? ⟨b, 1, none⟩ = some v := by rw [Lib.cell_of_heap hb2]; rfl
 have f1 : w2.frozen? ⟨b, 1, none⟩ = false := Lib.frozen_of_heap hb2 1
 have hput : Bld B b (s ++ t) (w2.setCell ⟨b, 1, none⟩ v2) := by
  refine .inr (Lib.BuilderAt.put hB hb2 ?_ (by decide))
  rw [hst]
  simpa [Lib.strCells_length] using hown2
 have hbel := (hb1.grown hgrow hz (fun k hk => (hown.lt k hk).1)).setCell (p := ⟨b, 1, none⟩) hB v2
 obtain ⟨ao, n', cap, rfl⟩ : ∃ ao n' cap, v2 = .slice ao n' cap := by
  rcases hown2.2 with ⟨hv, _⟩ | ⟨g, cap, cur, hv, _⟩ <;> exact ⟨_, _, _, hv⟩
 go_wp2
 go_ret2
 exact ⟨rfl, hput, hbel⟩
theorem li (B b : Nat) (s : ByteArray) (w : World) (h : Bld B b s w) (hBw : B ≤ w.heap.size) :
  Calls Tryz.prog 35 #[.pointer (some ⟨b, 0, none⟩)] w fun e w' => e = .returned (.string s) ∧ Below B w w' := by
 have h' : Lib.IsBuilder 70 5 B b (Lib.byteCells s.data.toList) w := h
 refine (Any.Builder_String_any Tryz.lays169 Tryz.Builder_Extra_169 B b s.data.toList w h' hBw).mono ?_
 rintro e w' ⟨rfl, hb⟩
 exact ⟨by simp, hb⟩
end Go.Proofs.YtclcgakfmcofaaaGreatDoor
namespace Go.Proofs.YtclcgakfmcofaaaGreatDoor
open Go.RowKit
structure ed (agg bound : Int) (l : List Rw) : Prop where
 ok : ce agg bound l = true
 cell : ∀ r ∈ l, OkC agg bound r.2
 key : ∀ r ∈ l, eI r.1
theorem ed.each {agg bound : Int} {l : List Rw} (h : ed agg bound l) {r : Rw} (hr : r ∈ l) : r.1.2.size ≤ 64 ∧ OkC agg bound r.2 ∧ eI r.1 := ⟨((cT h.ok).2.2.1 r hr).1, h.cell r hr, h.key r hr⟩
theorem ed.len {agg bound : Int} {l : List Rw} (h : ed agg bound l) : l.length ≤ 1536 := (cT h.ok).2.1
theorem ed.sz {agg bound : Int} {l : List Rw} (h : ed agg bound l) {m : List Rw} (hm : ∀ r ∈ m, r ∈ l) (hl : m.length ≤ l.length) : (an agg m).size ≤ 800000 := by
 have := lh (agg := agg) (l := m) (fun r hr => ⟨(h.each (hm r hr)).1, (h.each (hm r hr)).2.1.2.2⟩)
 have := h.len
 omega
theorem ol (agg bound : Int) (v : Value) (l : List Rw) (w : World) (h : WS w v l) (hcap : iD v) (hf : ed agg bound l) :
  Calls Tryz.prog 136 #[.int .i64 agg, .int .i64 bound, v] w (ByR w (an agg l, 0)) := by
 have H1 := ae (og agg bound v l w h (fun r hr => by have := (hf.cell r hr).2.2; omega) hcap hf.ok)
 obtain ⟨a, cap, rfl, hsh⟩ := h
 have hlen := hf.len
 go_enter Tryz.func136, Tryz.ntmps136
 go_wp2_with (go_at_call 43; refine H1.out.mono ?_; rintro e W1 ⟨rfl, hb1⟩)
 have hbd := Bld.new W1
 have hb2 := hb1.alloc hb1.size (.cells #[.pointer none, .slice none 0 0] 70)
 have hsB : w.heap.size ≤ W1.heap.size := hb1.size
 generalize hWB : W1.alloc (.cells #[.pointer none, .slice none 0 0] 70) = W2 at hbd hb2 ⊢
 have hB2 : W1.heap.size ≤ W2.heap.size := by rw [← hWB]; simp
 clear hWB hb1
 generalize W1.heap.size = B at hbd hsB hB2 ⊢
 clear W1
 go_loopw [25] (fun i wr => ∃ k : Nat, k ≤ l.length ∧ i = .int .i64 k ∧ Bld B B (an agg (l.take k)) wr ∧ Below w.heap.size w wr ∧ B ≤ wr.heap.size) (fun i _ => l.length - (intOf i).toNat)
 case atStart => exact ⟨0, by omega, rfl, hbd, hb2, hB2⟩
 case round =>
  clear hbd hb2 hB2
  rename World => w0
  obtain ⟨k, hk, rfl, hbd, hbel, hBw⟩ := hrel
  have hsz := hbel.size
  by_cases hlt : k < l.length
  ·obtain ⟨⟨⟨ya, yb⟩, yn, yl⟩, hy⟩ := ak hlt
   rcases hsh with rfl | ⟨b, off, rfl, hb, hat⟩
   ·simp at hlt
   obtain ⟨hq1, hq2, hq3⟩ := hf.each (List.mem_of_getElem? hy)
   simp only at hq1 hq2 hq3
   obtain ⟨c0, c1, c2, s1, p1, c3, n1⟩ := (hat.below hbel hb) k _ hy
   simp only at c0 c1 c2 c3 n1
   obtain ⟨Wa, hWa⟩ : ∃ Wa : World, Wa = w0.alloc (.cells #[.int .i64 ya, .string yb, .int .i64 yn, .slice s1 yl.length p1] 129) := ⟨_, rfl⟩
   have hba : Below w0.heap.size w0 Wa := by rw [hWa]; exact (Below.refl _ _).alloc (Nat.le_refl _) _
   have B4 : bF Wa w0.heap.size (.int .i64 ya) (.string yb) (.int .i64 yn) (.slice s1 yl.length p1) := by rw [hWa]; exact bF.new w0 _ _ _ _
   obtain ⟨a0, a1, a2, a3, -⟩ := B4.cells
   have HA := ae hWa.symm
   have HC1 := ae (ml (ya, yb) Wa hq1 hq3.1.1 hq3.1.2)
   have HC2 := ae (fun W (hW : Below Wa.heap.size Wa W) => cbytes_any agg bound _ (yn, yl) W ⟨s1, p1, rfl, (n1.below hba).below hW⟩ hq2.2.1 (by have h : yl.length ≤ 32 := hq2.2.2; show yl.length ≤ 50000; omega))
   rw [bytesR_of hq2.1] at HC2
   have hstep : an agg (l.take (k + 1)) = an agg (l.take k) ++ aT (ya, yb) ++ ci agg (yn, yl) := by
    rw [List.take_add_one, hy]
    show an agg (l.take k ++ [((ya, yb), (yn, yl))]) = _
    rw [ld]
    unfold fg
    apply bT
    simp [ByteArray.data_append]
   have hs1 := hf.sz (m := l.take (k + 1)) (fun r hr => List.mem_of_mem_take hr) (by simp; omega)
   rw [hstep] at hs1
   simp only [ByteArray.size_append] at hs1
   have HB4 := ae B4
   have HBD := ae (hbd.below hba)
   have HBW : Hid (Below w.heap.size w Wa) := hbel.trans (hba.mono hsz)
   have hBa : B ≤ Wa.heap.size := Nat.le_trans hBw hba.size
   have HST := ae hstep
   generalize aT (ya, yb) = X at *
   generalize ci agg (yn, yl) = Y at *
   generalize an agg (l.take k) = Z at *
   clear hWa hbel hat n1 hba B4 hy hbd hstep hq1 hq2 hq3
   go_wp2_with (first
    | (go_at_call 168; rw [HA.out]; refine HC1.out.mono ?_; rintro e W3 ⟨rfl, hb3⟩; obtain ⟨d0, d1, d2, d3, -⟩ := (HB4.out.below hb3).cells)
    | (go_at_call 169; refine (HC2.out _ hb3).mono ?_; rintro e W4 ⟨rfl, hb4⟩; have hb4' := ag hb3 hb4; have HD1 := ae (iT B B Z X W4 (HBD.out.below hb4') (by omega) (Nat.le_trans hBa hb4'.size)))
    | (go_at_call 34; refine HD1.out.mono ?_; rintro e W5 ⟨rfl, hbd5, hb5⟩; have HD1 := ae (iT B B (Z ++ X) Y W5 hbd5 (by simp only [ByteArray.size_append]; omega) (Nat.le_trans (Nat.le_trans hBa hb4'.size) hb5.size)); have HB5 := ae ((HBW.out.trans (hb4'.mono HBW.out.size)).trans (hb5.mono hsB)); have HS5 := ae hb5; clear hbd5 hb5))
   refine HD1.out.mono ?_
   rintro e W6 ⟨rfl, hbd6, hb6⟩
   have HF := ae (show Bld B B (an agg (l.take (k + 1))) W6 ∧ Below w.heap.size w W6 ∧ B ≤ W6.heap.size from ⟨by rw [HST.out]; exact hbd6, HB5.out.trans (hb6.mono hsB), Nat.le_trans (Nat.le_trans (Nat.le_trans hBa hb4'.size) HS5.out.size) hb6.size⟩)
   clear hbd6 hb6
   go_wp2
   go_roundw
   case rel => exact ⟨k + 1, by omega, by go_num, HF.out⟩
   case measure => simp [intOf]; omega
  ·have hlt' : l.length ≤ k := by omega
   rw [List.take_of_length_le hlt'] at hbd
   have HC := ae (li B B _ w0 hbd hBw)
   have HBE := ae hbel
   go_wp2_with (go_at_call 35; refine HC.out.mono ?_; rintro e W3 ⟨rfl, hb3⟩)
   go_ret2
   exact ⟨rfl, HBE.out.trans (hb3.mono hsB)⟩
theorem mC {s : ByteArray} (h : (ai s).2.2 = 0) : ∃ q : Nat, (ai s).2.1 = (q : Int) ∧ 1 ≤ q ∧ q ≤ s.size ∧ bw (ai s).1 := by
 obtain ⟨q, h1, h2, h3, h4, h5⟩ := ib s (ai s).1 (ai s).2.1 (by rw [← h])
 refine ⟨q, h1, ?_, h2, h3, h4⟩
 have := oh (ai s).1
 rw [h5, ByteArray.size_extract] at this
 omega
theorem xgood {s : ByteArray} (h : (bK s).2.2 = 0) : (bK s).1.size ≤ 64 ∧ ∃ p : Nat, (bK s).2.1 = (p : Int) ∧ p ≤ s.size := by
 unfold bK at h ⊢
 split at h
 ·next h0 => exact absurd h h0
 ·next h0 =>
  rw [if_neg h0]
  have h0 : (ai s).2.2 = 0 := by simpa using h0
  obtain ⟨q, e, hq, hq1, _⟩ := mC h0
  split at h
  ·exact absurd h (by decide)
  ·next h1 =>
   rw [if_neg h1]
   split at h
   ·exact absurd h (by decide)
   ·next h2 =>
    rw [if_neg h2]
    simp only [ByteArray.size_extract]
    exact ⟨by omega, ((ai s).2.1 + (ai s).1).toNat, by omega, by omega⟩
theorem kgood {s : ByteArray} (h : (bp s).2.2 = 0) : ∃ q : Nat, (bp s).2.1 = (q : Int) ∧ 1 ≤ q ∧ q ≤ s.size ∧ (bp s).1.2.size ≤ 64 ∧ bw (bp s).1.1 := by
 unfold bp at h ⊢
 split at h
 ·next h0 => exact absurd h h0
 ·next h0 =>
  rw [if_neg h0]
  have h0 : (ai s).2.2 = 0 := by simpa using h0
  obtain ⟨p, e1, hp, hp1, hn⟩ := mC h0
  split at h
  ·next h1 => exact absurd h h1
  ·next h1 =>
   rw [if_neg h1]
   have h1 : (bK (from' s (ai s).2.1)).2.2 = 0 := by simpa using h1
   obtain ⟨x1, q, x2, x3⟩ := xgood h1
   have hsz : (from' s (ai s).2.1).size = s.size - p := by
    rw [e1]
    unfold from'
    rw [ByteArray.size_extract]
    omega
   exact ⟨p + q, by simp only; omega, by omega, by omega, x1, hn⟩
end Go.Proofs.YtclcgakfmcofaaaGreatDoor
