/- Texts laid together: WWipe, PTRow, WROrd, PTMay, PTMayF. -/
import Derived.Test.YtclcgakfmcofaaaGreatDoorMW39
import Derived.Test.YtclcgakfmcofaaaGreatDoorMW16
import Derived.Laws.MakeOwn
import Derived.Laws.OwnMore
import Derived.Test.YtclcgakfmcofaaaGreatDoorMW9
import Derived.Test.YtclcgakfmcofaaaGreatDoorMW35
import Derived.Test.YtclcgakfmcofaaaGreatDoorMW24
import Derived.Test.YtclcgakfmcofaaaGreatDoorMW28
set_option linter.unusedVariables false
set_option maxRecDepth 100000
set_option maxHeartbeats 1600000
namespace Go.Proofs.YtclcgakfmcofaaaGreatDoor
open Go.RowKit
theorem keepT_set {T T' : TypeId} (hT : T ≠ T') {w : World} {g o : Nat} {cur : Array Value} {u : Value} (hb : w.heap[g]? = some (.cells cur T' (0, 0))) : dC T w (w.setCell ⟨g, o, none⟩ u) := fun g' cur' h => by
 have e : g' ≠ g := fun e => by
  subst e
  rw [hb] at h
  injection h with h
  injection h with _ h
  exact hT h.symm
 rw [Below.heap_setCell _ _ _ _ e]
 exact h
abbrev lG : cW := ((0, ⟨#[]⟩), 0, (none, 0, 0))
theorem bh.other {w w' : World} {base : Nat} {v : Value} {xs : List cW} (h : bh w base v xs) {o : Option Nat} (hg : w.grownBy w' o) (hne : ∀ k, v.ownBlock = some k → o ≠ some k) : bh w' base v xs := by
 refine ⟨h.1, ?_⟩
 rcases h.2 with ⟨h1, h2⟩ | ⟨g, cap, cur, h1, h2, h3, h4⟩
 ·exact .inl ⟨h1, h2⟩
 ·refine .inr ⟨g, cap, cur, h1, h2, ?_, h4⟩
  rw [hg.block g (Array.getElem?_eq_some_iff.1 h3).1 (fun e => hne g (by rw [h1]; rfl) e.symm)]
  exact h3
theorem bh.blk {w : World} {base : Nat} {v : Value} {xs : List cW} (h : bh w base v xs) {k : Nat} (hk : v.ownBlock = some k) : k < w.heap.size := by
 rcases h.2 with ⟨h1, h2⟩ | ⟨g, cap, cur, h1, h2, h3, h4⟩
 ·rw [h1] at hk; cases hk
 ·rw [h1] at hk
  injection hk with hk
  have : g = k := hk
  subst this
  exact (Array.getElem?_eq_some_iff.1 h3).1
abbrev dJ (g n : Nat) : Value := .slice (some ⟨g, 0, none⟩) n n
def fa (w : World) (base g n : Nat) (L : List (List Rw)) : Prop :=
 ∃ vs : List Value, w.ownsRow base 61 1 (dJ g n) n vs ∧ n = L.length ∧ (∀ (i : Nat) (u : Value) (l : List Rw), vs[i]? = some u → L[i]? = some l → aQ w base u l) ∧
  ∀ (i j : Nat) (u u' : Value) (k : Nat), i ≠ j → vs[i]? = some u → vs[j]? = some u' → u.ownBlock = some k → u'.ownBlock ≠ some k
theorem fa.runs {w : World} {base g n : Nat} {L : List (List Rw)} (h : fa w base g n L) : kd w base (dJ g n) L := by
 obtain ⟨vs, h1, h2, h3, h4⟩ := h
 have hl : vs.length = n := by simpa using h1.1
 exact ⟨vs, by rw [hl]; exact h1, by omega, h3⟩
theorem fa.below {w w' : World} {base g n : Nat} {L : List (List Rw)} (h : fa w base g n L) (hb : Below w.heap.size w w') : fa w' base g n L := by
 obtain ⟨vs, h1, h2, h3, h4⟩ := h
 exact ⟨vs, nQ h1 hb, h2, fun i u l hu hl => (h3 i u l hu hl).below hb, h4⟩
theorem fa.lt {w : World} {base g n : Nat} {L : List (List Rw)} (h : fa w base g n L) : base ≤ g ∧ g < w.heap.size := by
 obtain ⟨vs, h1, -⟩ := h
 rcases h1.2 with ⟨e, _⟩ | ⟨g', cap, cur, e, hb, hg, _⟩
 ·cases e
 ·injection e with e1 e2 e3
  injection e1 with e1
  injection e1 with e1
  subst e1
  exact ⟨hb, (Array.getElem?_eq_some_iff.1 hg).1⟩
theorem fa.at {w : World} {base g n p : Nat} {L : List (List Rw)} (h : fa w base g n L) (hp : p < n) : ∃ a m c, w.cell? ⟨g, p, none⟩ = some (.slice a m c) ∧ w.frozen? ⟨g, p, none⟩ = false := by
 obtain ⟨vs, h1, h2, h3, h4⟩ := h
 have hl : vs.length = n := by simpa using h1.1
 obtain ⟨u, hu⟩ := ak (l := vs) (i := p) (by omega)
 obtain ⟨l, hL⟩ := ak (l := L) (i := p) (by omega)
 obtain ⟨a, c, rfl⟩ := (h3 p u l hu hL).slice
 exact ⟨a, _, c, by rw [h1.cellAt p (by omega), hu], h1.frozenAt p⟩
theorem fw {α : Type} {n i : Nat} {x y : α} (h : (List.replicate n x)[i]? = some y) : y = x := by
 obtain ⟨h1, h2⟩ := List.getElem?_eq_some_iff.1 h
 simpa using h2.symm
theorem fa.start (W : World) (base n : Nat) (hb : base ≤ W.heap.size) (hn : n ≤ 100) :
  ∃ W1, (Instr.makeSlice 118 (.int .i64 (n : Int)) (.int .i64 (n : Int))).run Tryz.prog W = .ok (dJ W.heap.size n) W1 ∧ fa W1 base W.heap.size n (List.replicate n []) ∧ Below W.heap.size W W1 := by
 obtain ⟨i0, hi, hz0, hz1, hz2⟩ := info_parts Tryz.infoRows
 obtain ⟨W1, h1, h2, h3⟩ := run_make_full (P := Tryz.prog) W base 118 61 i0 _ 1 Tryz.underlying118 hi hz0 hz1 .i64 .i64 n (by rw [hz2]; omega) (by unfold maxLen; omega) hb
 refine ⟨W1, h1, ⟨List.replicate n (.slice none 0 0), ?_, by simp, fun i u l hu hl => ?_, fun i j u u' k _ hu _ hk => ?_⟩, ?_⟩
 ·have : (madeCells (Value.slice none 0 0).cells (n * 1)).toList = List.replicate n (.slice none 0 0) := by rw [Nat.mul_one]; exact toList_madeCells_one _ n
  rw [this] at h2
  exact h2
 ·rw [fw hu, fw hl]
  exact aQ.nil _ _
 ·rw [fw hu] at hk
  cases hk
 ·exact (Below.refl _ _).grown h3 (Nat.le_refl _) (fun k hk => by cases hk)
theorem fa.put {W : World} {base g n p : Nat} {L : List (List Rw)} {l : List Rw} {x : cW} {r : Rw} {u : Value} {b : Nat} (ty : TypeId) (h : fa W base g n L) (hL : L[p]? = some l) (hu : W.cell? ⟨g, p, none⟩ = some u)
  (hx : XS W (.slice (some ⟨b, 0, none⟩) 1 1) [x]) (hr : IsW W base x r) (hl : l.length ≤ 100000) (hb : base ≤ W.heap.size) :
  ∃ v' W', (Builtin.append_ #[61, 61] ty #[u, .slice (some ⟨b, 0, none⟩) 1 1]).run Tryz.prog W = .ok v' W' ∧ W'.frozen? ⟨g, p, none⟩ = false ∧ (∃ a m c, v' = .slice a m c) ∧ (∃ u', W'.cell? ⟨g, p, none⟩ = some u') ∧ fa (W'.setCell ⟨g, p, none⟩ v') base g n (L.set p (l ++ [r])) ∧ Below base W (W'.setCell ⟨g, p, none⟩ v') := by
 have hbg := h.lt
 obtain ⟨vs, h1, h2, h3, h4⟩ := h
 have hvl : vs.length = n := by simpa using h1.1
 have hp : p < n := by have := (List.getElem?_eq_some_iff.1 hL).1; omega
 obtain ⟨u0, hu0⟩ := ak (l := vs) (i := p) (by omega)
 have e0 : u0 = u := by
  have := h1.cellAt p (by omega)
  rw [hu, hu0] at this
  injection this with this
  exact this.symm
 subst e0
 obtain ⟨xs, hox, hax⟩ := h3 p u0 l hu0 hL
 obtain ⟨v', W', hrun, hox', hgr, hown⟩ := cd ty hox hx (by have := hax.1; simp; omega) hb
 have hk2 := cw hox hgr
 have k1 : dC 61 W W' := dC.row (by decide) hox hgr
 obtain ⟨cur, hcur, hcs⟩ : ∃ cur : Array Value, W.heap[g]? = some (.cells cur 61 (0, 0)) ∧ cur.size = n * 1 := by
  rcases h1.2 with ⟨e, _⟩ | ⟨g', cap, cur, e, hb', hg', _, _, hs, _⟩
  ·cases e
  ·injection e with e1 e2 e3
   injection e1 with e1
   injection e1 with e1
   subst e1 e3
   exact ⟨cur, hg', hs⟩
 have hcur' := k1 g cur hcur
 have h1' : W'.ownsRow base 61 1 (dJ g n) n vs := by
  refine ⟨h1.1, ?_⟩
  rcases h1.2 with ⟨e, e2⟩ | ⟨g', cap, cur', e, hb', hg', hrest⟩
  ·exact .inl ⟨e, e2⟩
  ·exact .inr ⟨g', cap, cur', e, hb', k1 g' cur' hg', hrest⟩
 have hs1 := hgr.size
 have kR : dC 129 W' (W'.setCell ⟨g, p, none⟩ v') := keepT_set (by decide) hcur'
 have kN : dC 2 W' (W'.setCell ⟨g, p, none⟩ v') := keepT_set (by decide) hcur'
 have kN' : dR W' (W'.setCell ⟨g, p, none⟩ v') := ⟨by simp, kN⟩
 have hnew : aQ W' base v' (l ++ [r]) := ⟨xs ++ [x], hox', (hax.keep hk2).snoc (hr.keep hk2)⟩
 have hget : ∀ (j : Nat), j ≠ p → (vs.set p v')[j]? = vs[j]? := fun j hj => List.getElem?_set_ne (fun e => hj e.symm)
 have hgetL : ∀ (j : Nat), j ≠ p → (L.set p (l ++ [r]))[j]? = L[j]? := fun j hj => List.getElem?_set_ne (fun e => hj e.symm)
 have hgp : (vs.set p v')[p]? = some v' := by rw [List.getElem?_set_self (by omega)]
 have hgpL : (L.set p (l ++ [r]))[p]? = some (l ++ [r]) := by rw [List.getElem?_set_self (by omega)]
 refine ⟨v', W', hrun, h1'.frozenAt p, ?_, ⟨u0, by rw [h1'.cellAt p (by omega), hu0]⟩, ⟨vs.set p v', (h1'.stored p v').1, by simpa using h2, ?_, ?_⟩, ?_⟩
 ·obtain ⟨a, c, e⟩ := hnew.slice
  exact ⟨a, _, c, e⟩
 ·intro i y m hy hm
  by_cases hi : i = p
  ·subst hi
   rw [hgp] at hy
   rw [hgpL] at hm
   injection hy with hy
   injection hm with hm
   subst hy hm
   exact hnew.keepT (by simp) kR kN
  ·rw [hget i hi] at hy
   rw [hgetL i hi] at hm
   obtain ⟨ys, q1, q2⟩ := h3 i y m hy hm
   have q3 : bh W' base y ys := q1.other hgr (fun k hk => h4 i p y u0 k hi hy hu0 hk)
   exact ⟨ys, q3.keepT kR, (q2.keep hk2).keep kN'⟩
 ·intro i j y y' k hij hy hy' hk
  have hlt : ∀ (i : Nat) (y : Value) (k : Nat), vs[i]? = some y → y.ownBlock = some k → k < W.heap.size := fun i y k hy hk => by
   have hi : i < n := by have := (List.getElem?_eq_some_iff.1 hy).1; omega
   obtain ⟨m, hm⟩ := ak (l := L) (i := i) (by omega)
   obtain ⟨ys, q1, -⟩ := h3 i y m hy hm
   exact q1.blk hk
  by_cases hi : i = p
  ·subst hi
   rw [hgp] at hy
   injection hy with hy
   subst hy
   rw [hget j (fun e => hij e.symm)] at hy'
   intro e
   rcases hown with ho | ho
   ·rw [ho] at hk
    exact h4 i j u0 y' k hij hu0 hy' hk e
   ·rw [ho] at hk
    injection hk with hk
    have := hlt j y' k hy' e
    omega
  ·rw [hget i hi] at hy
   by_cases hj : j = p
   ·subst hj
    rw [hgp] at hy'
    injection hy' with hy'
    subst hy'
    intro e
    rcases hown with ho | ho
    ·rw [ho] at e
     exact h4 i j y u0 k hij hy hu0 hk e
    ·rw [ho] at e
     injection e with e
     have := hlt i y k hy hk
     omega
   ·rw [hget j hj] at hy'
    exact h4 i j y y' k hij hy hy' hk
 ·exact ((Below.refl base W).grown hgr hb (aW hox)).setCell (p := ⟨g, p, none⟩) hbg.1 v'
theorem prt_put {n : Int} {l : List Rw} {k p : Nat} {r : Rw} (hk : l[k]? = some r) (hp : ofP n r.1 = p) (hn : p < n.toNat) : (dM n (l.take k))[p]? = some (fK (ofP n) (l.take k) p) ∧ (dM n (l.take k)).set p (fK (ofP n) (l.take k) p ++ [r]) = dM n (l.take (k + 1)) := by
 refine ⟨ge _ _ hn, ?_⟩
 rw [List.take_add_one, hk]
 show _ = dM n (l.take k ++ [r])
 apply List.ext_getElem?
 intro i
 by_cases hi : i < n.toNat
 ·rw [ge _ _ hi, partR_snoc]
  by_cases he : p = i
  ·subst he
   rw [if_pos hp, List.getElem?_set_self (by rw [dK]; exact hi)]
  ·rw [if_neg (by omega), List.getElem?_set_ne he, ge _ _ hi]
 ·rw [List.getElem?_eq_none (by rw [List.length_set, dK]; omega), List.getElem?_eq_none (by rw [dK]; omega)]
theorem prt_nil (n : Int) : dM n [] = List.replicate n.toNat [] := by
 apply List.ext_getElem?
 intro i
 by_cases hi : i < n.toNat
 ·rw [ge _ _ hi]; simp [hi, fK]
 ·rw [List.getElem?_eq_none (by rw [dK]; omega), List.getElem?_eq_none (by simp; omega)]
def ke (l : List Rw) : Bool := l.all (fun r => decide (r.1.2.size ≤ 64)) && decide (aZ l) && decide (l.length ≤ 1536)
structure OrdTo (l : List Rw) (k : Nat) : Prop where
 all : ∀ r ∈ l.take k, r.1.2.size ≤ 64
 rise : aZ (l.take k)
theorem OrdTo.start (l : List Rw) : OrdTo l 0 := ⟨by simp, by simp [aZ]⟩
theorem okRows_ord {agg bound : Int} {l : List Rw} (hw : aJ agg bound = true) (hc : ∀ r ∈ l, gH agg bound.toNat r.2 = true) : ce agg bound l = ke l := by
 have e : ∀ r ∈ l, fd agg bound r.2 = true := fun r hr => by unfold fd; rw [hw, hc r hr]; rfl
 unfold ce ke
 rw [hw, Bool.true_and, show l.all (fun r => decide (r.1.2.size ≤ 64) && fd agg bound r.2) = l.all (fun r => decide (r.1.2.size ≤ 64)) from by
  rw [Bool.eq_iff_iff, List.all_eq_true, List.all_eq_true]
  exact ⟨fun h r hr => by have := h r hr; rw [Bool.and_eq_true] at this; exact this.1, fun h r hr => by rw [h r hr, e r hr]; rfl⟩]
 cases l.all (fun r => decide (r.1.2.size ≤ 64)) <;> cases decide (aZ l) <;> cases decide (l.length ≤ 1536) <;> rfl
theorem Tryz.infoRow4 : (Tryz.prog.info? 129).map (fun i => (i.zero, i.size, i.bytes)) = some (some (.agg #[.int .i64 0, .string ⟨#[]⟩, .int .i64 0, .slice none 0 0]), 4, 56) := by kernel_rfl
def fO (l : List Rw) : List Rw := l.map fun r => (r.1, (0, []))
theorem bare_rise (l : List Rw) : aZ (fO l) ↔ aZ l := by unfold fO aZ; rw [List.pairwise_map]
theorem ord_bare (l : List Rw) : ke (fO l) = ke l := by
 unfold ke
 rw [show decide (aZ (fO l)) = decide (aZ l) from decide_eq_decide.2 (bare_rise l)]
 unfold fO
 rw [List.all_map, List.length_map]
 rfl
theorem okRows_bare (l : List Rw) : ce 1 0 (fO l) = ke l := by
 rw [okRows_ord (agg := 1) (bound := 0) (by decide) (fun r hr => by
  unfold fO at hr
  obtain ⟨x, _, rfl⟩ := List.mem_map.1 hr
  rw [mayN (by decide) (by decide)]
  rfl), ord_bare]
def gx (l : List Rw) : List cW := l.map fun r => (r.1, 0, (none, 0, 0))
def cY (l : List Rw) (k : Nat) : List cW := gx (l.take k) ++ List.replicate (l.length - k) lG
theorem iw (l : List Rw) {k : Nat} (h : k ≤ l.length) : (cY l k).length = l.length := by unfold cY gx; simp; omega
theorem bareX_get (l : List Rw) {k : Nat} (h : k < l.length) : (cY l k)[k]? = some lG := by
 unfold cY gx
 rw [List.getElem?_append_right (by simp; omega), List.length_map, List.length_take, Nat.min_eq_left (by omega), Nat.sub_self, List.getElem?_replicate, if_pos (by omega)]
theorem bareX_set (l : List Rw) {k : Nat} {r : Rw} (h : l[k]? = some r) : (cY l k).set k (r.1, 0, (none, 0, 0)) = cY l (k + 1) := by
 have hk : k < l.length := (List.getElem?_eq_some_iff.1 h).1
 unfold cY gx
 rw [List.set_append_right _ _ (by simp; omega), List.length_map, List.length_take, Nat.min_eq_left (by omega), Nat.sub_self, List.take_add_one, h, show l.length - k = (l.length - (k + 1)) + 1 by omega, List.replicate_succ]
 simp
theorem flatW_key (xs : List cW) (p : Nat) (x : cW) (k : Ky) (hx : xs[p]? = some x) : aw (xs.set p (k, x.2)) = ((aw xs).set (p * 4) (.int .i64 k.1)).set (p * 4 + 1) (.string k.2) := by
 induction xs generalizing p with
 | nil => simp at hx
 | cons a l ih =>
  cases p with
  | zero => simp at hx; subst hx; rfl
  | succ p =>
   have hx' : l[p]? = some x := by simpa using hx
   rw [List.set_cons_succ]
   show cj a ++ aw (l.set p (k, x.2)) = (((cj a ++ aw l).set ((p + 1) * 4) (.int .i64 k.1)).set ((p + 1) * 4 + 1) (.string k.2))
   rw [ih p hx']
   have e0 : (p + 1) * 4 = (cj a).length + (p * 4) := by simp [cj]; omega
   have e1 : (p + 1) * 4 + 1 = (cj a).length + (p * 4 + 1) := by simp [cj]; omega
   rw [e1, e0, List.set_append_right _ _ (by omega), List.set_append_right _ _ (by omega)]
   simp
theorem made_flat (n : Nat) : (madeCells #[Value.int .i64 0, .string ⟨#[]⟩, .int .i64 0, .slice none 0 0] (n * 4)).toList = aw (List.replicate n lG) := by
 induction n with
 | zero => simp [madeCells, aw]
 | succ n ih =>
  have e : aw (List.replicate (n + 1) lG) = aw (List.replicate n lG) ++ [.int .i64 0, .string ⟨#[]⟩, .int .i64 0, .slice none 0 0] := by
   rw [List.replicate_succ', ky]; rfl
  rw [e, ← ih]
  apply List.ext_getElem?
  intro j
  have hlen : (madeCells #[Value.int .i64 0, .string ⟨#[]⟩, .int .i64 0, .slice none 0 0] (n * 4)).toList.length = n * 4 := by simp [madeCells]
  by_cases hj : j < n * 4
  ·rw [List.getElem?_append_left (by omega)]
   simp [madeCells, hj, show j < (n + 1) * 4 by omega]
  ·rw [List.getElem?_append_right (by omega), hlen]
   by_cases h4 : j < n * 4 + 4
   ·obtain ⟨d, hd, rfl⟩ : ∃ d, d < 4 ∧ j = n * 4 + d := ⟨j - n * 4, by omega, by omega⟩
    have hm : (n * 4 + d) % 4 = d := by omega
    rw [show n * 4 + d - n * 4 = d by omega]
    simp only [madeCells, Array.toList_map, List.getElem?_map, Array.toList_range]
    rw [List.getElem?_range (by omega)]
    simp only [Option.map_some, show (#[Value.int .i64 0, .string ⟨#[]⟩, .int .i64 0, .slice none 0 0] : Array Value).size = 4 from rfl, hm]
    match d, hd with
    | 0, _ => rfl
    | 1, _ => rfl
    | 2, _ => rfl
    | 3, _ => rfl
   ·rw [List.getElem?_eq_none (by simp [madeCells]; omega), List.getElem?_eq_none (by simp; omega)]
theorem bare_start (W : World) (base : Nat) (l : List Rw) (hb : base ≤ W.heap.size) (hl : l.length ≤ 100000) :
  ∃ W1, (Instr.makeSlice 61 (.int .i64 (l.length : Int)) (.int .i64 (l.length : Int))).run Tryz.prog W = .ok (dJ W.heap.size l.length) W1 ∧ bh W1 base (dJ W.heap.size l.length) (cY l 0) ∧ Below W.heap.size W W1 ∧ W.heap.size < W1.heap.size := by
 obtain ⟨i0, hi, hz0, hz1, hz2⟩ := info_parts Tryz.infoRow4
 obtain ⟨W1, h1, h2, h3⟩ := run_make_full (P := Tryz.prog) W base 61 129 i0 _ 4 Tryz.underlying61 hi hz0 hz1 .i64 .i64 l.length (by rw [hz2]; omega) (by unfold maxLen; omega) hb
 have e : cY l 0 = List.replicate l.length lG := by unfold cY gx; simp
 refine ⟨W1, h1, ?_, (Below.refl _ _).grown h3 (Nat.le_refl _) (fun k hk => by cases hk), (h2.lt W.heap.size rfl).2⟩
 unfold bh
 rw [e, List.length_replicate, ← made_flat]
 exact h2
theorem bare_step {W : World} {base g k : Nat} {l : List Rw} {r : Rw} (h : bh W base (dJ g l.length) (cY l k)) (hr : l[k]? = some r) :
  bh ((W.setCell ⟨g, k * 4, none⟩ (.int .i64 r.1.1)).setCell ⟨g, k * 4 + 1, none⟩ (.string r.1.2)) base (dJ g l.length) (cY l (k + 1)) := by
 have hk : k < l.length := (List.getElem?_eq_some_iff.1 hr).1
 have h0 : W.ownsRow base 129 4 (dJ g l.length) l.length (aw (cY l k)) := by
  have h' := h
  unfold bh at h'
  rwa [iw l (by omega)] at h'
 have h1 := (h0.stored (k * 4) (.int .i64 r.1.1)).1
 have h2 := (h1.stored (k * 4 + 1) (.string r.1.2)).1
 rw [← flatW_key (cY l k) k lG r.1 (bareX_get l hk)] at h2
 rw [show ((r.1, lG.2) : cW) = (r.1, 0, (none, 0, 0)) from rfl, bareX_set l hr] at h2
 unfold bh
 rw [iw l (by omega)]
 exact h2
theorem bare_own {W : World} {base g : Nat} {l : List Rw} (h : bh W base (dJ g l.length) (cY l l.length)) : aQ W base (dJ g l.length) (fO l) := by
 refine ⟨_, h, ?_, fun i x r hx hr => ?_⟩
 ·rw [iw l (Nat.le_refl _)]; unfold fO; simp
 ·have e : cY l l.length = gx l := by unfold cY; simp
  rw [e] at hx
  unfold gx at hx
  unfold fO at hr
  rw [List.getElem?_map] at hx hr
  cases hl : l[i]? with
  | none => rw [hl] at hx; simp at hx
  | some y =>
   rw [hl] at hx hr
   simp at hx hr
   subst hx hr
   exact ⟨rfl, rfl, World.ownsRow_nil _ _ _ _⟩
theorem bare_lt {W : World} {base g n : Nat} {xs : List cW} (h : bh W base (dJ g n) xs) : base ≤ g ∧ g < W.heap.size ∧ ∀ j, W.frozen? ⟨g, j, none⟩ = false := by
 rcases h.2 with ⟨e, _⟩ | ⟨g', cap, cur, e, hb, hg, _⟩
 ·cases e
 ·injection e with e1 e2 e3
  injection e1 with e1
  injection e1 with e1
  subst e1
  exact ⟨hb, (Array.getElem?_eq_some_iff.1 hg).1, fun j => by simp [World.frozen?, hg]⟩
theorem bare_cell {W : World} {base g k : Nat} {l : List Rw} (h : bh W base (dJ g l.length) (cY l k)) (hk : k < l.length) : (∃ u, W.cell? ⟨g, k * 4, none⟩ = some u) ∧ ∃ u, W.cell? ⟨g, k * 4 + 1, none⟩ = some u := by
 have h0 : W.ownsRow base 129 4 (dJ g l.length) l.length (aw (cY l k)) := by
  have h' := h
  unfold bh at h'
  rwa [iw l (by omega)] at h'
 obtain ⟨q0, q1, -, -⟩ := fD _ _ _ (bareX_get l hk)
 exact ⟨⟨_, by rw [h0.cellAt _ (by omega)]; exact q0⟩, ⟨_, by rw [h0.cellAt _ (by omega)]; exact q1⟩⟩
theorem mayStand_any (v : Value) (l : List Rw) (w : World) (h : WS w v l) (hl : l.length ≤ 100000) :
  Calls Tryz.prog 165 #[v] w (jI w (ke l)) := by
 obtain ⟨va, vc, rfl, hsh⟩ := h
 obtain ⟨W1, hmk, hX0, hb1, hlt1⟩ := bare_start w w.heap.size l (Nat.le_refl _) hl
 obtain ⟨g, hg⟩ : ∃ g, g = w.heap.size := ⟨_, rfl⟩
 have HC := ae (fun W (hX : bh W w.heap.size (dJ g l.length) (cY l l.length)) => mY 1 0 (dJ g l.length) (fO l) W (bare_own hX).ws (by unfold fO; simp; exact hl) (fun r hr => by unfold fO at hr; obtain ⟨y, _, rfl⟩ := List.mem_map.1 hr; simp) (bare_own hX).cap)
 rw [okRows_bare] at HC
 have HMK := ae hmk
 clear hmk
 go_enter Tryz.func165, Tryz.ntmps165
 have hmk := HMK.out
 go_wp2
 have hX0 : bh W1 w.heap.size (dJ g l.length) (cY l 0) := by rw [hg]; exact hX0
 rw [← hg]
 have HG := ae hg
 clear hmk hg HMK
 go_loopw [11] (fun i wr => ∃ k : Nat, k ≤ l.length ∧ i = .int .i64 k ∧ bh wr w.heap.size (dJ g l.length) (cY l k) ∧ Below w.heap.size w wr) (fun i _ => l.length - (intOf i).toNat)
 case atStart => exact ⟨0, by omega, rfl, hX0, hb1⟩
 case round =>
  clear hX0 hb1 hlt1
  rename World => w0
  obtain ⟨k, hk, rfl, hX, hbel⟩ := hrel
  have hsz := hbel.size
  by_cases hlt : k < l.length
  ·obtain ⟨⟨⟨ya, yb⟩, yn, yl⟩, hy⟩ := ak hlt
   rcases hsh with rfl | ⟨b, off, rfl, hb, hat⟩
   ·simp at hlt
   obtain ⟨c0, c1, c2, s1, p1, c3, n1⟩ := (hat.below hbel hb) k _ hy
   simp only at c0 c1 c2 c3 n1
   have hst : ∀ (W : World) (o : Obj), Below W.heap.size W (W.alloc o) := fun W o => (Below.refl _ _).alloc (Nat.le_refl _) _
   obtain ⟨Wa, hWa⟩ : ∃ Wa : World, Wa = w0.alloc (.cells #[.int .i64 ya, .string yb, .int .i64 yn, .slice s1 yl.length p1] 129) := ⟨_, rfl⟩
   have hba : Below w0.heap.size w0 Wa := by rw [hWa]; exact hst _ _
   have B4 : bF Wa w0.heap.size (.int .i64 ya) (.string yb) (.int .i64 yn) (.slice s1 yl.length p1) := by rw [hWa]; exact bF.new w0 _ _ _ _
   obtain ⟨a0, a1, a2, a3, -⟩ := B4.cells
   have hXa := hX.below hba
   obtain ⟨hg1, hg2, hfz⟩ := bare_lt hXa
   obtain ⟨⟨u0, hu0⟩, ⟨u1, hu1⟩⟩ := bare_cell hXa hlt
   have f0 := hfz (k * 4)
   have f1 := hfz (k * 4 + 1)
   rw [hWa] at hu0 hu1 f0 f1
   have hXs := bare_step hXa hy
   simp only at hXs
   rw [hWa] at hXs hba
   have HX := ae hXs
   have HB := ae (((hbel.trans (hba.mono hsz)).setCell (p := ⟨g, k * 4, none⟩) hg1 (.int .i64 ya)).setCell (p := ⟨g, k * 4 + 1, none⟩) hg1 (.string yb))
   clear hWa hbel hat n1 hba B4 hy hX hXa hXs hst hfz a0 a1 a2 a3
   go_wp2_with (first | fail)
   go_roundw
   case rel => exact ⟨k + 1, by omega, by go_num, HX.out, HB.out⟩
   case measure => simp [intOf]; omega
  ·obtain rfl : k = l.length := by omega
   have HX := ae (HC.out w0 hX)
   have HB := ae hbel
   cases ho : ke l with
   | true =>
    rw [ho] at HX
    go_wp2_with (go_at_call 43; refine HX.out.mono ?_; rintro e W2 ⟨rfl, hb2⟩)
    go_ret
    exact ⟨by rw [ho]; rfl, ag HB.out hb2⟩
   | false =>
    rw [ho] at HX
    go_wp2_with (go_at_call 43; refine HX.out.mono ?_; rintro e W2 ⟨rfl, hb2⟩)
    go_ret
    exact ⟨by rw [ho]; rfl, ag HB.out hb2⟩
end Go.Proofs.YtclcgakfmcofaaaGreatDoor
