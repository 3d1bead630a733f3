/- Texts laid together: WWipe, PTRow, WROrd, PTMay, PTMayF, PTOf, PTCopy, PTParts, PTBld, PTOut. -/
import Derived.Test.YtclcgakfmcofaaaGreatDoorMC39
import Derived.Test.YtclcgakfmcofaaaGreatDoorMC16
import Derived.Laws.MakeOwn
import Derived.Laws.OwnMore
import Derived.Test.YtclcgakfmcofaaaGreatDoorMC9
import Derived.Test.YtclcgakfmcofaaaGreatDoorMC35
import Derived.Test.YtclcgakfmcofaaaGreatDoorMC24
import Derived.Test.YtclcgakfmcofaaaGreatDoorMC28
import Derived.Test.YtclcgakfmcofaaaGreatDoorMC2
import Derived.Test.YtclcgakfmcofaaaGreatDoorMC27
import Derived.Test.YtclcgakfmcofaaaGreatDoorMC7
import Derived.Test.YtclcgakfmcofaaaGreatDoorMC32
import Derived.Test.YtclcgakfmcofaaaGreatDoorMC17
import Derived.Test.YtclcgakfmcofaaaGreatDoorMC37
namespace Go.Proofs.YtclcgakfmcofaaaGreatDoor
open Go.RowKit
set_option linter.unusedVariables false
theorem keepT_set {T T' : TypeId} (hT : T ≠ T') {w : World} {g o : Nat} {cur : Array Value} {u : Value} (hb : w.heap[g]? = some (.cells cur T' (0, 0))) : KeepT T w (w.setCell ⟨g, o, none⟩ u) := fun g' cur' h => by
 have e : g' ≠ g := fun e => by
  subst e
  rw [hb] at h
  injection h with h
  injection h with _ h
  exact hT h.symm
 rw [Below.heap_setCell _ _ _ _ e]
 exact h
abbrev noRaw : Raw := ((0, ⟨#[]⟩), 0, (none, 0, 0))
set_option maxRecDepth 100000
set_option maxRecDepth 100000
theorem OwnX.other {w w' : World} {base : Nat} {v : Value} {xs : List Raw} (h : OwnX w base v xs) {o : Option Nat} (hg : w.grownBy w' o) (hne : ∀ k, v.ownBlock = some k → o ≠ some k) : OwnX w' base v xs := by
 refine ⟨h.1, ?_⟩
 rcases h.2 with ⟨h1, h2⟩ | ⟨g, cap, cur, h1, h2, h3, h4⟩
 ·exact .inl ⟨h1, h2⟩
 ·refine .inr ⟨g, cap, cur, h1, h2, ?_, h4⟩
  rw [hg.block g (Array.getElem?_eq_some_iff.1 h3).1 (fun e => hne g (by rw [h1]; rfl) e.symm)]
  exact h3
theorem OwnX.blk {w : World} {base : Nat} {v : Value} {xs : List Raw} (h : OwnX w base v xs) {k : Nat} (hk : v.ownBlock = some k) : k < w.heap.size := by
 rcases h.2 with ⟨h1, h2⟩ | ⟨g, cap, cur, h1, h2, h3, h4⟩
 ·rw [h1] at hk; cases hk
 ·rw [h1] at hk
  injection hk with hk
  have : g = k := hk
  subst this
  exact (Array.getElem?_eq_some_iff.1 h3).1
abbrev runsV (g n : Nat) : Value := .slice (some ⟨g, 0, none⟩) n n
def OwnP (w : World) (base g n : Nat) (L : List (List Rw)) : Prop :=
 ∃ vs : List Value, w.ownsRow base 61 1 (runsV g n) n vs ∧ n = L.length ∧ (∀ (i : Nat) (u : Value) (l : List Rw), vs[i]? = some u → L[i]? = some l → OwnW w base u l) ∧
  ∀ (i j : Nat) (u u' : Value) (k : Nat), i ≠ j → vs[i]? = some u → vs[j]? = some u' → u.ownBlock = some k → u'.ownBlock ≠ some k
theorem OwnP.runs {w : World} {base g n : Nat} {L : List (List Rw)} (h : OwnP w base g n L) : OwnRs w base (runsV g n) L := by
 obtain ⟨vs, h1, h2, h3, h4⟩ := h
 have hl : vs.length = n := by simpa using h1.1
 exact ⟨vs, by rw [hl]; exact h1, by omega, h3⟩
theorem OwnP.below {w w' : World} {base g n : Nat} {L : List (List Rw)} (h : OwnP w base g n L) (hb : Below w.heap.size w w') : OwnP w' base g n L := by
 obtain ⟨vs, h1, h2, h3, h4⟩ := h
 exact ⟨vs, ownsRow_below h1 hb, h2, fun i u l hu hl => (h3 i u l hu hl).below hb, h4⟩
theorem OwnP.lt {w : World} {base g n : Nat} {L : List (List Rw)} (h : OwnP w base g n L) : base ≤ g ∧ g < w.heap.size := by
 obtain ⟨vs, h1, -⟩ := h
 rcases h1.2 with ⟨e, _⟩ | ⟨g', cap, cur, e, hb, hg, _⟩
 ·cases e
 ·injection e with e1 e2 e3
  injection e1 with e1
  injection e1 with e1
  subst e1
  exact ⟨hb, (Array.getElem?_eq_some_iff.1 hg).1⟩
theorem OwnP.at {w : World} {base g n p : Nat} {L : List (List Rw)} (h : OwnP w base g n L) (hp : p < n) : ∃ a m c, w.cell? ⟨g, p, none⟩ = some (.slice a m c) ∧ w.frozen? ⟨g, p, none⟩ = false := by
 obtain ⟨vs, h1, h2, h3, h4⟩ := h
 have hl : vs.length = n := by simpa using h1.1
 obtain ⟨u, hu⟩ := getSome (l := vs) (i := p) (by omega)
 obtain ⟨l, hL⟩ := getSome (l := L) (i := p) (by omega)
 obtain ⟨a, c, rfl⟩ := (h3 p u l hu hL).slice
 exact ⟨a, _, c, by rw [h1.cellAt p (by omega), hu], h1.frozenAt p⟩
theorem replicate_get {α : Type} {n i : Nat} {x y : α} (h : (List.replicate n x)[i]? = some y) : y = x := by
 obtain ⟨h1, h2⟩ := List.getElem?_eq_some_iff.1 h
 simpa using h2.symm
theorem OwnP.start (W : World) (base n : Nat) (hb : base ≤ W.heap.size) (hn : n ≤ 100) :
  ∃ W1, (Instr.makeSlice 118 (.int .i64 (n : Int)) (.int .i64 (n : Int))).run Tryz.prog W = .ok (runsV W.heap.size n) W1 ∧ OwnP W1 base W.heap.size n (List.replicate n []) ∧ Below W.heap.size W W1 := by
 obtain ⟨i0, hi, hz0, hz1, hz2⟩ := info_parts Tryz.infoRows
 obtain ⟨W1, h1, h2, h3⟩ := run_make_full (P := Tryz.prog) W base 118 61 i0 _ 1 Tryz.underlying118 hi hz0 hz1 .i64 .i64 n (by rw [hz2]; omega) (by unfold maxLen; omega) hb
 refine ⟨W1, h1, ⟨List.replicate n (.slice none 0 0), ?_, by simp, fun i u l hu hl => ?_, fun i j u u' k _ hu _ hk => ?_⟩, ?_⟩
 ·have : (madeCells (Value.slice none 0 0).cells (n * 1)).toList = List.replicate n (.slice none 0 0) := by rw [Nat.mul_one]; exact toList_madeCells_one _ n
  rw [this] at h2
  exact h2
 ·rw [replicate_get hu, replicate_get hl]
  exact OwnW.nil _ _
 ·rw [replicate_get hu] at hk
  cases hk
 ·exact (Below.refl _ _).grown h3 (Nat.le_refl _) (fun k hk => by cases hk)
theorem OwnP.put {W : World} {base g n p : Nat} {L : List (List Rw)} {l : List Rw} {x : Raw} {r : Rw} {u : Value} {b : Nat} (ty : TypeId) (h : OwnP W base g n L) (hL : L[p]? = some l) (hu : W.cell? ⟨g, p, none⟩ = some u)
  (hx : XS W (.slice (some ⟨b, 0, none⟩) 1 1) [x]) (hr : IsW W base x r) (hl : l.length ≤ 100000) (hb : base ≤ W.heap.size) :
  ∃ v' W', (Builtin.append_ #[61, 61] ty #[u, .slice (some ⟨b, 0, none⟩) 1 1]).run Tryz.prog W = .ok v' W' ∧ W'.frozen? ⟨g, p, none⟩ = false ∧ (∃ a m c, v' = .slice a m c) ∧ (∃ u', W'.cell? ⟨g, p, none⟩ = some u') ∧ OwnP (W'.setCell ⟨g, p, none⟩ v') base g n (L.set p (l ++ [r])) ∧ Below base W (W'.setCell ⟨g, p, none⟩ v') := by
 have hbg := h.lt
 obtain ⟨vs, h1, h2, h3, h4⟩ := h
 have hvl : vs.length = n := by simpa using h1.1
 have hp : p < n := by have := (List.getElem?_eq_some_iff.1 hL).1; omega
 obtain ⟨u0, hu0⟩ := getSome (l := vs) (i := p) (by omega)
 have e0 : u0 = u := by
  have := h1.cellAt p (by omega)
  rw [hu, hu0] at this
  injection this with this
  exact this.symm
 subst e0
 obtain ⟨xs, hox, hax⟩ := h3 p u0 l hu0 hL
 obtain ⟨v', W', hrun, hox', hgr, hown⟩ := append_xs ty hox hx (by have := hax.1; simp; omega) hb
 have hk2 := keep_row hox hgr
 have k1 : KeepT 61 W W' := KeepT.row (by decide) hox hgr
 obtain ⟨cur, hcur, hcs⟩ : ∃ cur : Array Value, W.heap[g]? = some (.cells cur 61 (0, 0)) ∧ cur.size = n * 1 := by
  rcases h1.2 with ⟨e, _⟩ | ⟨g', cap, cur, e, hb', hg', _, _, hs, _⟩
  ·cases e
  ·injection e with e1 e2 e3
   injection e1 with e1
   injection e1 with e1
   subst e1 e3
   exact ⟨cur, hg', hs⟩
 have hcur' := k1 g cur hcur
 have h1' : W'.ownsRow base 61 1 (runsV g n) n vs := by
  refine ⟨h1.1, ?_⟩
  rcases h1.2 with ⟨e, e2⟩ | ⟨g', cap, cur', e, hb', hg', hrest⟩
  ·exact .inl ⟨e, e2⟩
  ·exact .inr ⟨g', cap, cur', e, hb', k1 g' cur' hg', hrest⟩
 have hs1 := hgr.size
 have kR : KeepT 129 W' (W'.setCell ⟨g, p, none⟩ v') := keepT_set (by decide) hcur'
 have kN : KeepT 2 W' (W'.setCell ⟨g, p, none⟩ v') := keepT_set (by decide) hcur'
 have kN' : Keep2 W' (W'.setCell ⟨g, p, none⟩ v') := ⟨by simp, kN⟩
 have hnew : OwnW W' base v' (l ++ [r]) := ⟨xs ++ [x], hox', (hax.keep hk2).snoc (hr.keep hk2)⟩
 have hget : ∀ (j : Nat), j ≠ p → (vs.set p v')[j]? = vs[j]? := fun j hj => List.getElem?_set_ne (fun e => hj e.symm)
 have hgetL : ∀ (j : Nat), j ≠ p → (L.set p (l ++ [r]))[j]? = L[j]? := fun j hj => List.getElem?_set_ne (fun e => hj e.symm)
 have hgp : (vs.set p v')[p]? = some v' := by rw [List.getElem?_set_self (by omega)]
 have hgpL : (L.set p (l ++ [r]))[p]? = some (l ++ [r]) := by rw [List.getElem?_set_self (by omega)]
 refine ⟨v', W', hrun, h1'.frozenAt p, ?_, ⟨u0, by rw [h1'.cellAt p (by omega), hu0]⟩, ⟨vs.set p v', (h1'.stored p v').1, by simpa using h2, ?_, ?_⟩, ?_⟩
 ·obtain ⟨a, c, e⟩ := hnew.slice
  exact ⟨a, _, c, e⟩
 ·intro i y m hy hm
  by_cases hi : i = p
  ·subst hi
   rw [hgp] at hy
   rw [hgpL] at hm
   injection hy with hy
   injection hm with hm
   subst hy hm
   exact hnew.keepT (by simp) kR kN
  ·rw [hget i hi] at hy
   rw [hgetL i hi] at hm
   obtain ⟨ys, q1, q2⟩ := h3 i y m hy hm
   have q3 : OwnX W' base y ys := q1.other hgr (fun k hk => h4 i p y u0 k hi hy hu0 hk)
   exact ⟨ys, q3.keepT kR, (q2.keep hk2).keep kN'⟩
 ·intro i j y y' k hij hy hy' hk
  have hlt : ∀ (i : Nat) (y : Value) (k : Nat), vs[i]? = some y → y.ownBlock = some k → k < W.heap.size := fun i y k hy hk => by
   have hi : i < n := by have := (List.getElem?_eq_some_iff.1 hy).1; omega
   obtain ⟨m, hm⟩ := getSome (l := L) (i := i) (by omega)
   obtain ⟨ys, q1, -⟩ := h3 i y m hy hm
   exact q1.blk hk
  by_cases hi : i = p
  ·subst hi
   rw [hgp] at hy
   injection hy with hy
   subst hy
   rw [hget j (fun e => hij e.symm)] at hy'
   intro e
   rcases hown with ho | ho
   ·rw [ho] at hk
    exact h4 i j u0 y' k hij hu0 hy' hk e
   ·rw [ho] at hk
    injection hk with hk
    have := hlt j y' k hy' e
    omega
  ·rw [hget i hi] at hy
   by_cases hj : j = p
   ·subst hj
    rw [hgp] at hy'
    injection hy' with hy'
    subst hy'
    intro e
    rcases hown with ho | ho
    ·rw [ho] at e
     exact h4 i j y u0 k hij hy hu0 hk e
    ·rw [ho] at e
     injection e with e
     have := hlt i y k hy hk
     omega
   ·rw [hget j hj] at hy'
    exact h4 i j y y' k hij hy hy' hk
 ·exact ((Below.refl base W).grown hgr hb (own_row hox)).setCell (p := ⟨g, p, none⟩) hbg.1 v'
theorem prt_put {n : Int} {l : List Rw} {k p : Nat} {r : Rw} (hk : l[k]? = some r) (hp : ofP n r.1 = p) (hn : p < n.toNat) : (prt n (l.take k))[p]? = some (partR (ofP n) (l.take k) p) ∧ (prt n (l.take k)).set p (partR (ofP n) (l.take k) p ++ [r]) = prt n (l.take (k + 1)) := by
 refine ⟨partsR_get _ _ hn, ?_⟩
 rw [List.take_add_one, hk]
 show _ = prt n (l.take k ++ [r])
 apply List.ext_getElem?
 intro i
 by_cases hi : i < n.toNat
 ·rw [partsR_get _ _ hi, partR_snoc]
  by_cases he : p = i
  ·subst he
   rw [if_pos hp, List.getElem?_set_self (by rw [partsR_len]; exact hi)]
  ·rw [if_neg (by omega), List.getElem?_set_ne he, partsR_get _ _ hi]
 ·rw [List.getElem?_eq_none (by rw [List.length_set, partsR_len]; omega), List.getElem?_eq_none (by rw [partsR_len]; omega)]
theorem prt_nil (n : Int) : prt n [] = List.replicate n.toNat [] := by
 apply List.ext_getElem?
 intro i
 by_cases hi : i < n.toNat
 ·rw [partsR_get _ _ hi]; simp [hi, partR]
 ·rw [List.getElem?_eq_none (by rw [partsR_len]; omega), List.getElem?_eq_none (by simp; omega)]
def ordB (l : List Rw) : Bool := l.all (fun r => decide (r.1.2.size ≤ 64)) && decide (RiseK l) && decide (l.length ≤ 1536)
structure OrdTo (l : List Rw) (k : Nat) : Prop where
 all : ∀ r ∈ l.take k, r.1.2.size ≤ 64
 rise : RiseK (l.take k)
theorem OrdTo.start (l : List Rw) : OrdTo l 0 := ⟨by simp, by simp [RiseK]⟩
theorem OrdTo.step {l : List Rw} {k : Nat} {r : Rw} (h : OrdTo l k) (hr : l[k]? = some r) (h1 : r.1.2.size ≤ 64) (h2 : ∀ m x, k = m + 1 → l[m]? = some x → ltK x.1 r.1 = true) : OrdTo l (k + 1) := by
 have hstep : l.take (k + 1) = l.take k ++ [r] := by rw [List.take_add_one, hr]; rfl
 have hkl := (List.getElem?_eq_some_iff.1 hr).1
 refine ⟨fun x hx => ?_, ?_⟩
 ·rw [hstep] at hx
  rcases List.mem_append.1 hx with hx | hx
  ·exact h.all x hx
  ·simp at hx; subst hx; exact h1
 ·rw [hstep]
  refine rise_snocK h.rise fun x hx => ?_
  rw [List.getLast?_eq_getElem?, List.length_take, Nat.min_eq_left (by omega)] at hx
  have hk0 : 0 < k := by
   rcases Nat.eq_zero_or_pos k with e | e
   ·rw [e] at hx; simp at hx
   ·exact e
  rw [List.getElem?_take_of_lt (by omega)] at hx
  exact h2 (k - 1) x (by omega) hx
theorem OrdTo.fin {l : List Rw} {k : Nat} (h : OrdTo l k) (hk : l.length ≤ k) : ordB l = decide (l.length ≤ 1536) := by
 obtain ⟨h1, h2⟩ := h
 rw [List.take_of_length_le hk] at h1 h2
 unfold ordB
 rw [List.all_eq_true.2 (fun r hr => decide_eq_true (h1 r hr)), decide_eq_true h2]
 rfl
theorem ordB_key {l : List Rw} {k : Nat} {r : Rw} (hr : l[k]? = some r) (h : ¬ r.1.2.size ≤ 64) : ordB l = false := by
 have : l.all (fun r => decide (r.1.2.size ≤ 64)) = false := by
  cases he : l.all (fun r => decide (r.1.2.size ≤ 64)) with
  | false => rfl
  | true => rw [List.all_eq_true] at he; exact absurd (of_decide_eq_true (he r (List.mem_of_getElem? hr))) h
 unfold ordB
 rw [this, Bool.false_and, Bool.false_and]
theorem ordB_two {l : List Rw} {m k : Nat} {x r : Rw} (hk : k = m + 1) (hx : l[m]? = some x) (hr : l[k]? = some r) (h : ltK x.1 r.1 = false) : ordB l = false := by
 have : ¬ RiseK l := fun hri => by
  have := rise_at hri hx hr (by omega)
  rw [h] at this
  cases this
 unfold ordB
 rw [decide_eq_false this, Bool.and_false, Bool.false_and]
theorem okRows_ord {agg bound : Int} {l : List Rw} (hw : wayC agg bound = true) (hc : ∀ r ∈ l, mayC agg bound.toNat r.2 = true) : okRows agg bound l = ordB l := by
 have e : ∀ r ∈ l, chk agg bound r.2 = true := fun r hr => by unfold chk; rw [hw, hc r hr]; rfl
 unfold okRows ordB
 rw [hw, Bool.true_and, show l.all (fun r => decide (r.1.2.size ≤ 64) && chk agg bound r.2) = l.all (fun r => decide (r.1.2.size ≤ 64)) from by
  rw [Bool.eq_iff_iff, List.all_eq_true, List.all_eq_true]
  exact ⟨fun h r hr => by have := h r hr; rw [Bool.and_eq_true] at this; exact this.1, fun h r hr => by rw [h r hr, e r hr]; rfl⟩]
 cases l.all (fun r => decide (r.1.2.size ≤ 64)) <;> cases decide (RiseK l) <;> cases decide (l.length ≤ 1536) <;> rfl
theorem okRows_cell {agg bound : Int} {l : List Rw} {r : Rw} (hr : r ∈ l) (h : mayC agg bound.toNat r.2 = false) : okRows agg bound l = false := by
 cases he : okRows agg bound l with
 | false => rfl
 | true =>
  have := (okRows_parts he).2.2.1 r hr
  have h2 := this.2
  unfold chk at h2
  rw [h, Bool.and_false] at h2
  cases h2
theorem okRows_big {agg bound : Int} {l : List Rw} (h : ¬ l.length ≤ 1536) : okRows agg bound l = false := by
 cases he : okRows agg bound l with
 | false => rfl
 | true => exact absurd (okRows_parts he).2.1 h
set_option maxRecDepth 100000
set_option maxHeartbeats 1600000 in
theorem rordered_any (v : Value) (l : List Rw) (w : World) (h : WS w v l) (hl : l.length ≤ 100000) : Calls Tryz.prog 73 #[v] w (BoolR w (ordB l)) := by
 obtain ⟨va, vc, rfl, hsh⟩ := h
 go_enter Tryz.func73, Tryz.ntmps73
 go_wp2
 go_loopw [3] (fun i wr => ∃ k : Nat, k ≤ l.length ∧ i = .int .i64 k ∧ Hid (OrdTo l k) ∧ Below w.heap.size w wr) (fun i _ => l.length - (intOf i).toNat)
 case atStart => exact ⟨0, by omega, rfl, OrdTo.start l, Below.refl _ _⟩
 case round =>
  rename World => w0
  obtain ⟨k, hk, rfl, HO, hbel⟩ := hrel
  have hsz := hbel.size
  by_cases hlt : k < l.length
  ·obtain ⟨⟨⟨ya, yb⟩, yn, yl⟩, hy⟩ := getSome hlt
   rcases hsh with rfl | ⟨b, off, rfl, hb, hat⟩
   ·simp at hlt
   have HBEL := hidM hbel
   obtain ⟨c0, c1, -⟩ := (hat.below hbel hb) k _ hy
   simp only at c0 c1
   have HK := hidM (fun W => rkey_any (ya, yb) W)
   have hk0 : (0 : Int) ≤ (k : Int) := by omega
   have hki : (k : Int) < (l.length : Int) := by omega
   by_cases hs : yb.size ≤ 64
   ·rw [show decide ((ya, yb).2.size ≤ 64) = true from decide_eq_true hs] at HK
    by_cases hz : k = 0
    ·subst hz
     simp only [Nat.zero_mul, Nat.add_zero] at c0 c1
     have HO2 := hidM (HO.out.step hy hs (fun m x hm => by omega))
     clear hat hbel hy hs HO
     go_wp2_with fail
     refine wp_region_any (by kernel_rfl) ?_
     change wpAny _ _ _ _ _ _ _ (World.drew _)
     refine wpAny_take (i := 0) (oi := { dst := some 10, op := Go.Op.move (Go.Operand.tmp 0), type := 61, pos := "thresherref9.go:140", after := #[], guard := none }) (v := ?v0y8) rfl (by kernel_rfl) (by kernel_rfl) (by kernel_rfl) (fun _ _ _ h => h) (Or.inl ⟨by rfl, ?h0y8⟩) ?r0y8
     case h0y8 => (intro W; go_simp; try with_reducible rfl)
     simp only [Act.put, List.setIfInBounds_toArray, List.set_cons_zero, List.set_cons_succ]
     refine wpAny_take (i := 1) (oi := { dst := some 11, op := Go.Op.move (Go.Operand.tmp 3), type := 3, pos := "thresherref9.go:140", after := #[], guard := none }) (v := ?v1y9) rfl (by kernel_rfl) (by kernel_rfl) (by kernel_rfl) (fun _ _ _ h => h) (Or.inl ⟨by rfl, ?h1y9⟩) ?r1y9
     case h1y9 => (intro W; go_simp; try with_reducible rfl)
     simp only [Act.put, List.setIfInBounds_toArray, List.set_cons_zero, List.set_cons_succ]
     refine wpAny_take (i := 2) (oi := { dst := some 12, op := Go.Op.indexAddr 61 (Go.Operand.tmp 10) (Go.Operand.tmp 11), type := 0, pos := "thresherref9.go:140", after := #[{ on := 0, ground := Go.Ground.data }, { on := 1, ground := Go.Ground.data }], guard := none }) (v := ?v2y10) rfl (by kernel_rfl) (by kernel_rfl) (by kernel_rfl) (fun _ _ _ h => h) (Or.inl ⟨by rfl, ?h2y10⟩) ?r2y10
     case h2y10 => (intro W; go_simp; try with_reducible rfl)
     simp only [Act.put, List.setIfInBounds_toArray, List.set_cons_zero, List.set_cons_succ]
     refine wpAny_take (i := 3) (oi := { dst := some 13, op := Go.Op.fieldAddr 129 (Go.Operand.tmp 12) 0, type := 0, pos := "thresherref9.go:140", after := #[{ on := 2, ground := Go.Ground.data }], guard := none }) (v := ?v3y11) rfl (by kernel_rfl) (by kernel_rfl) (by kernel_rfl) (fun _ _ _ h => h) (Or.inl ⟨by rfl, ?h3y11⟩) ?r3y11
     case h3y11 => (intro W; go_simp; try with_reducible rfl)
     simp only [Act.put, List.setIfInBounds_toArray, List.set_cons_zero, List.set_cons_succ]
     refine wpAny_ready (rs := [4]) (by kernel_rfl) (by simp) ?_
     refine AllReady.cons (o := { dst := some 14, op := Go.Op.load 124 (Go.Operand.tmp 13), type := 124, pos := "thresherref9.go:140", after := #[{ on := 3, ground := Go.Ground.data }], guard := none }) rfl (fun K hK => ?_) AllReady.nil
     go_simp
     refine hK _ _ ?_
     clear hK K
     try simp only [Act.put, List.setIfInBounds_toArray, List.set_cons_zero, List.set_cons_succ]
     refine wpAny_ready (rs := [5]) (by kernel_rfl) (by simp) ?_
     refine AllReady.cons (o := { dst := some 15, op := Go.Op.call { callee := Go.Callee.value (Go.Operand.func 120), args := #[Go.Operand.tmp 14], argTypes := #[124] }, type := 4, pos := "thresherref9.go:140", after := #[{ on := 4, ground := Go.Ground.data }], guard := none }) rfl (fun K hK => ?_) AllReady.nil
     go_simp
     refine (HK.out _).mono ?_
     rintro e W1 ⟨rfl, hb1⟩
     refine hK _ _ ?_
     clear hK K
     try simp only [Act.put, List.setIfInBounds_toArray, List.set_cons_zero, List.set_cons_succ]
     refine wpAny_take (i := 6) (oi := { dst := some 16, op := Go.Op.unOp Go.UnOp.not 4 (Go.Operand.tmp 15), type := 4, pos := "thresherref9.go:140", after := #[{ on := 5, ground := Go.Ground.data }], guard := none }) (v := ?v6y12) rfl (by kernel_rfl) (by kernel_rfl) (by kernel_rfl) (fun _ _ _ h => h) (Or.inl ⟨by rfl, ?h6y12⟩) ?r6y12
     case h6y12 => (intro W; go_simp; try with_reducible rfl)
     simp only [Act.put, List.setIfInBounds_toArray, List.set_cons_zero, List.set_cons_succ]
     refine wpAny_take (i := 7) (oi := { dst := some 17, op := Go.Op.move (Go.Operand.tmp 16), type := 4, pos := "thresherref9.go:140", after := #[{ on := 6, ground := Go.Ground.data }, { on := 5, ground := Go.Ground.chain }], guard := none }) (v := ?v7y13) rfl (by kernel_rfl) (by kernel_rfl) (by kernel_rfl) (fun _ _ _ h => h) (Or.inl ⟨by rfl, ?h7y13⟩) ?r7y13
     case h7y13 => (intro W; go_simp; try with_reducible rfl)
     simp only [Act.put, List.setIfInBounds_toArray, List.set_cons_zero, List.set_cons_succ]
     refine wpAny_take (i := 8) (oi := { dst := some 18, op := Go.Op.move (Go.Operand.tmp 3), type := 3, pos := "thresherref9.go:140", after := #[{ on := 7, ground := Go.Ground.guard }], guard := some (7, false) }) (v := ?v8y14) rfl (by kernel_rfl) (by kernel_rfl) (by kernel_rfl) (fun _ _ _ h => h) (Or.inl ⟨by rfl, ?h8y14⟩) ?r8y14
     case h8y14 => (intro W; go_simp; try with_reducible rfl)
     simp only [Act.put, List.setIfInBounds_toArray, List.set_cons_zero, List.set_cons_succ]
     refine wpAny_take (i := 9) (oi := { dst := some 19, op := Go.Op.binOp Go.BinOp.gtr 3 (Go.Operand.tmp 18) (Go.Operand.const (Go.Value.int Go.IntKind.i64 0)) 3, type := 4, pos := "thresherref9.go:140", after := #[{ on := 8, ground := Go.Ground.data }, { on := 7, ground := Go.Ground.guard }], guard := some (7, false) }) (v := ?v9y15) rfl (by kernel_rfl) (by kernel_rfl) (by kernel_rfl) (fun _ _ _ h => h) (Or.inl ⟨by rfl, ?h9y15⟩) ?r9y15
     case h9y15 => (intro W; go_simp; try with_reducible rfl)
     simp only [Act.put, List.setIfInBounds_toArray, List.set_cons_zero, List.set_cons_succ]
     refine wpAny_take (i := 10) (oi := { dst := some 20, op := Go.Op.move (Go.Operand.tmp 19), type := 4, pos := "thresherref9.go:140", after := #[{ on := 9, ground := Go.Ground.data }, { on := 7, ground := Go.Ground.chain }, { on := 7, ground := Go.Ground.guard }], guard := some (7, false) }) (v := ?v10y16) rfl (by kernel_rfl) (by kernel_rfl) (by kernel_rfl) (fun _ _ _ h => h) (Or.inl ⟨by rfl, ?h10y16⟩) ?r10y16
     case h10y16 => (intro W; go_simp; try with_reducible rfl)
     simp only [Act.put, List.setIfInBounds_toArray, List.set_cons_zero, List.set_cons_succ]
     refine wpAny_take (i := 11) (oi := { dst := some 21, op := Go.Op.move (Go.Operand.tmp 0), type := 61, pos := "thresherref9.go:140", after := #[{ on := 10, ground := Go.Ground.guard }], guard := some (10, true) }) (v := undef) rfl (by kernel_rfl) (by kernel_rfl) (by kernel_rfl) (fun _ _ _ h => h) (Or.inr ⟨by rfl, rfl⟩) ?_
     simp only [Act.put, List.setIfInBounds_toArray, List.set_cons_zero, List.set_cons_succ]
     refine wpAny_take (i := 12) (oi := { dst := some 22, op := Go.Op.move (Go.Operand.tmp 3), type := 3, pos := "thresherref9.go:140", after := #[{ on := 10, ground := Go.Ground.guard }], guard := some (10, true) }) (v := undef) rfl (by kernel_rfl) (by kernel_rfl) (by kernel_rfl) (fun _ _ _ h => h) (Or.inr ⟨by rfl, rfl⟩) ?_
     simp only [Act.put, List.setIfInBounds_toArray, List.set_cons_zero, List.set_cons_succ]
     refine wpAny_take (i := 13) (oi := { dst := some 23, op := Go.Op.binOp Go.BinOp.sub 3 (Go.Operand.tmp 22) (Go.Operand.const (Go.Value.int Go.IntKind.i64 1)) 3, type := 3, pos := "thresherref9.go:140", after := #[{ on := 12, ground := Go.Ground.data }, { on := 10, ground := Go.Ground.guard }], guard := some (10, true) }) (v := undef) rfl (by kernel_rfl) (by kernel_rfl) (by kernel_rfl) (fun _ _ _ h => h) (Or.inr ⟨by rfl, rfl⟩) ?_
     simp only [Act.put, List.setIfInBounds_toArray, List.set_cons_zero, List.set_cons_succ]
     refine wpAny_take (i := 14) (oi := { dst := some 24, op := Go.Op.indexAddr 61 (Go.Operand.tmp 21) (Go.Operand.tmp 23), type := 0, pos := "thresherref9.go:140", after := #[{ on := 11, ground := Go.Ground.data }, { on := 13, ground := Go.Ground.data }, { on := 10, ground := Go.Ground.guard }], guard := some (10, true) }) (v := undef) rfl (by kernel_rfl) (by kernel_rfl) (by kernel_rfl) (fun _ _ _ h => h) (Or.inr ⟨by rfl, rfl⟩) ?_
     simp only [Act.put, List.setIfInBounds_toArray, List.set_cons_zero, List.set_cons_succ]
     refine wpAny_take (i := 15) (oi := { dst := some 25, op := Go.Op.fieldAddr 129 (Go.Operand.tmp 24) 0, type := 0, pos := "thresherref9.go:140", after := #[{ on := 14, ground := Go.Ground.data }, { on := 10, ground := Go.Ground.guard }], guard := some (10, true) }) (v := undef) rfl (by kernel_rfl) (by kernel_rfl) (by kernel_rfl) (fun _ _ _ h => h) (Or.inr ⟨by rfl, rfl⟩) ?_
     simp only [Act.put, List.setIfInBounds_toArray, List.set_cons_zero, List.set_cons_succ]
     refine wpAny_take (i := 16) (oi := { dst := some 26, op := Go.Op.load 124 (Go.Operand.tmp 25), type := 124, pos := "thresherref9.go:140", after := #[{ on := 15, ground := Go.Ground.data }, { on := 10, ground := Go.Ground.guard }], guard := some (10, true) }) (v := undef) rfl (by kernel_rfl) (by kernel_rfl) (by kernel_rfl) (fun _ _ _ h => h) (Or.inr ⟨by rfl, rfl⟩) ?_
     simp only [Act.put, List.setIfInBounds_toArray, List.set_cons_zero, List.set_cons_succ]
     refine wpAny_take (i := 17) (oi := { dst := some 27, op := Go.Op.move (Go.Operand.tmp 0), type := 61, pos := "thresherref9.go:140", after := #[{ on := 10, ground := Go.Ground.guard }], guard := some (10, true) }) (v := undef) rfl (by kernel_rfl) (by kernel_rfl) (by kernel_rfl) (fun _ _ _ h => h) (Or.inr ⟨by rfl, rfl⟩) ?_
     simp only [Act.put, List.setIfInBounds_toArray, List.set_cons_zero, List.set_cons_succ]
     refine wpAny_take (i := 18) (oi := { dst := some 28, op := Go.Op.move (Go.Operand.tmp 3), type := 3, pos := "thresherref9.go:140", after := #[{ on := 10, ground := Go.Ground.guard }], guard := some (10, true) }) (v := undef) rfl (by kernel_rfl) (by kernel_rfl) (by kernel_rfl) (fun _ _ _ h => h) (Or.inr ⟨by rfl, rfl⟩) ?_
     simp only [Act.put, List.setIfInBounds_toArray, List.set_cons_zero, List.set_cons_succ]
     refine wpAny_take (i := 19) (oi := { dst := some 29, op := Go.Op.indexAddr 61 (Go.Operand.tmp 27) (Go.Operand.tmp 28), type := 0, pos := "thresherref9.go:140", after := #[{ on := 17, ground := Go.Ground.data }, { on := 18, ground := Go.Ground.data }, { on := 10, ground := Go.Ground.guard }], guard := some (10, true) }) (v := undef) rfl (by kernel_rfl) (by kernel_rfl) (by kernel_rfl) (fun _ _ _ h => h) (Or.inr ⟨by rfl, rfl⟩) ?_
     simp only [Act.put, List.setIfInBounds_toArray, List.set_cons_zero, List.set_cons_succ]
     refine wpAny_take (i := 20) (oi := { dst := some 30, op := Go.Op.fieldAddr 129 (Go.Operand.tmp 29) 0, type := 0, pos := "thresherref9.go:140", after := #[{ on := 19, ground := Go.Ground.data }, { on := 10, ground := Go.Ground.guard }], guard := some (10, true) }) (v := undef) rfl (by kernel_rfl) (by kernel_rfl) (by kernel_rfl) (fun _ _ _ h => h) (Or.inr ⟨by rfl, rfl⟩) ?_
     simp only [Act.put, List.setIfInBounds_toArray, List.set_cons_zero, List.set_cons_succ]
     refine wpAny_take (i := 21) (oi := { dst := some 31, op := Go.Op.load 124 (Go.Operand.tmp 30), type := 124, pos := "thresherref9.go:140", after := #[{ on := 20, ground := Go.Ground.data }, { on := 10, ground := Go.Ground.guard }], guard := some (10, true) }) (v := undef) rfl (by kernel_rfl) (by kernel_rfl) (by kernel_rfl) (fun _ _ _ h => h) (Or.inr ⟨by rfl, rfl⟩) ?_
     simp only [Act.put, List.setIfInBounds_toArray, List.set_cons_zero, List.set_cons_succ]
     refine wpAny_take (i := 22) (oi := { dst := some 32, op := Go.Op.call { callee := Go.Callee.value (Go.Operand.func 117), args := #[Go.Operand.tmp 26, Go.Operand.tmp 31], argTypes := #[124, 124] }, type := 3, pos := "thresherref9.go:140", after := #[{ on := 16, ground := Go.Ground.data }, { on := 21, ground := Go.Ground.data }, { on := 10, ground := Go.Ground.chain }, { on := 10, ground := Go.Ground.guard }], guard := some (10, true) }) (v := undef) rfl (by kernel_rfl) (by kernel_rfl) (by kernel_rfl) (fun _ _ _ h => h) (Or.inr ⟨by rfl, rfl⟩) ?_
     simp only [Act.put, List.setIfInBounds_toArray, List.set_cons_zero, List.set_cons_succ]
     refine wpAny_take (i := 23) (oi := { dst := some 33, op := Go.Op.binOp Go.BinOp.geq 3 (Go.Operand.tmp 32) (Go.Operand.const (Go.Value.int Go.IntKind.i64 0)) 3, type := 4, pos := "thresherref9.go:140", after := #[{ on := 22, ground := Go.Ground.data }, { on := 10, ground := Go.Ground.guard }], guard := some (10, true) }) (v := undef) rfl (by kernel_rfl) (by kernel_rfl) (by kernel_rfl) (fun _ _ _ h => h) (Or.inr ⟨by rfl, rfl⟩) ?_
     simp only [Act.put, List.setIfInBounds_toArray, List.set_cons_zero, List.set_cons_succ]
     refine wpAny_take (i := 24) (oi := { dst := some 34, op := Go.Op.pick (Go.Operand.tmp 20) (Go.Operand.tmp 33) (Go.Operand.const (Go.Value.bool false)), type := 4, pos := "thresherref9.go:140", after := #[{ on := 10, ground := Go.Ground.data }, { on := 23, ground := Go.Ground.data }, { on := 7, ground := Go.Ground.guard }], guard := some (7, false) }) (v := ?v24y17) rfl (by kernel_rfl) (by kernel_rfl) (by kernel_rfl) (fun _ _ _ h => h) (Or.inl ⟨by rfl, ?h24y17⟩) ?r24y17
     case h24y17 => (intro W; go_simp; try with_reducible rfl)
     simp only [Act.put, List.setIfInBounds_toArray, List.set_cons_zero, List.set_cons_succ]
     refine wpAny_take (i := 25) (oi := { dst := some 35, op := Go.Op.pick (Go.Operand.tmp 17) (Go.Operand.const (Go.Value.bool true)) (Go.Operand.tmp 34), type := 4, pos := "thresherref9.go:140", after := #[{ on := 7, ground := Go.Ground.data }, { on := 24, ground := Go.Ground.data }], guard := none }) (v := ?v25y18) rfl (by kernel_rfl) (by kernel_rfl) (by kernel_rfl) (fun _ _ _ h => h) (Or.inl ⟨by rfl, ?h25y18⟩) ?r25y18
     case h25y18 => (intro W; go_simp; try with_reducible rfl)
     simp only [Act.put, List.setIfInBounds_toArray, List.set_cons_zero, List.set_cons_succ]
     refine wpAny_done (by kernel_rfl) ?_ _
     go_wp2
     go_roundw
     case rel => exact ⟨1, by omega, by go_num, HO2.out, HBEL.out.trans ((nxt ((Below.refl w0.heap.size w0).drew) hb1).mono hsz)⟩
     case measure => simp [intOf]; omega
    ·obtain ⟨m, hm⟩ : ∃ m, k = m + 1 := ⟨k - 1, by omega⟩
     obtain ⟨⟨⟨xa, xb⟩, xn, xl⟩, hx⟩ := getSome (l := l) (i := m) (by omega)
     obtain ⟨d0, d1, -⟩ := (hat.below hbel hb) m _ hx
     simp only at d0 d1
     have hbl : b < w0.heap.size := by omega
     have HS := hidM (show ∀ W, Below w0.heap.size w0 W → W.cell? ⟨b, off + k * 4, none⟩ = some (.int .i64 ya) ∧ W.cell? ⟨b, off + k * 4 + 1, none⟩ = some (.string yb) ∧ W.cell? ⟨b, off + m * 4, none⟩ = some (.int .i64 xa) ∧ W.cell? ⟨b, off + m * 4 + 1, none⟩ = some (.string xb) ∧ Below w0.heap.size w0 W from fun W hW =>
      ⟨(hW.cell (p := ⟨b, _, none⟩) hbl).trans c0, (hW.cell (p := ⟨b, _, none⟩) hbl).trans c1, (hW.cell (p := ⟨b, _, none⟩) hbl).trans d0, (hW.cell (p := ⟨b, _, none⟩) hbl).trans d1, hW⟩)
     have HC := hidM (fun W => rcmp_any (xa, xb) (ya, yb) W)
     have hneg := cfK_lt0 (xa, xb) (ya, yb)
     have hwr : IntKind.i64.wrap ((k : Int) - 1) = (m : Int) := by rw [IntKind.wrap_i64]; omega
     have hm0 : (0 : Int) ≤ (m : Int) := by omega
     have hmi : (m : Int) < (l.length : Int) := by omega
     have hd1 : decide ((0 : Int) < (k : Int)) = true := decide_eq_true (by omega)
     have hd2 : decide (0 < k) = true := decide_eq_true (by omega)
     have HM := hidM hm
     cases hlk : ltK (xa, xb) (ya, yb) with
     | true =>
      rw [hlk, decide_eq_true_eq] at hneg
      have HO2 := hidM (HO.out.step hy hs (fun m' x' hm' hx' => by
       obtain rfl : m' = m := by omega
       rw [hx] at hx'
       injection hx' with hx'
       subst hx'
       exact hlk))
      obtain ⟨cf, hcf⟩ : ∃ cf : Int, cf = cfK (xa, xb) (ya, yb) := ⟨_, rfl⟩
      rw [← hcf] at HC hneg
      have hneg2 : decide ((0 : Int) ≤ cf) = false := decide_eq_false (by omega)
      clear hat hbel hy hx hs HO hcf hm hlk c0 c1 d0 d1 hneg
      go_wp2_with fail
      go_region_held3 (fun W => W.cell? ⟨b, off + k * 4, none⟩ = some (.int .i64 ya) ∧ W.cell? ⟨b, off + k * 4 + 1, none⟩ = some (.string yb) ∧ W.cell? ⟨b, off + m * 4, none⟩ = some (.int .i64 xa) ∧ W.cell? ⟨b, off + m * 4 + 1, none⟩ = some (.string xb) ∧ Below w0.heap.size w0 W)
       (first | exact HS.out _ (Below.refl _ _).drew | exact HS.out _ (nxt ((Below.refl _ _).drew) hb2) | exact HS.out _ (nxt (nxt ((Below.refl _ _).drew) hb2) hb3))
       (first | (go_at_call 120; refine (HK.out _).mono ?_; rintro e W2 ⟨rfl, hb2⟩) | (go_at_call 117; refine (HC.out _).mono ?_; rintro e W3 ⟨rfl, hb3⟩))
      go_wp2
      go_roundw
      case rel => exact ⟨k + 1, by omega, by go_num, HO2.out, HBEL.out.trans ((nxt (nxt ((Below.refl w0.heap.size w0).drew) hb2) hb3).mono hsz)⟩
      case measure => simp [intOf]; omega
     | false =>
      rw [hlk, decide_eq_false_iff_not] at hneg
      have HF := hidM (ordB_two hm hx hy hlk)
      obtain ⟨cf, hcf⟩ : ∃ cf : Int, cf = cfK (xa, xb) (ya, yb) := ⟨_, rfl⟩
      rw [← hcf] at HC hneg
      have hneg2 : decide ((0 : Int) ≤ cf) = true := decide_eq_true (by omega)
      clear hat hbel hy hx hs HO hcf hm hlk c0 c1 d0 d1 hneg
      go_wp2_with fail
      go_region_held3 (fun W => W.cell? ⟨b, off + k * 4, none⟩ = some (.int .i64 ya) ∧ W.cell? ⟨b, off + k * 4 + 1, none⟩ = some (.string yb) ∧ W.cell? ⟨b, off + m * 4, none⟩ = some (.int .i64 xa) ∧ W.cell? ⟨b, off + m * 4 + 1, none⟩ = some (.string xb) ∧ Below w0.heap.size w0 W)
       (first | exact HS.out _ (Below.refl _ _).drew | exact HS.out _ (nxt ((Below.refl _ _).drew) hb2) | exact HS.out _ (nxt (nxt ((Below.refl _ _).drew) hb2) hb3))
       (first | (go_at_call 120; refine (HK.out _).mono ?_; rintro e W2 ⟨rfl, hb2⟩) | (go_at_call 117; refine (HC.out _).mono ?_; rintro e W3 ⟨rfl, hb3⟩))
      go_wp2
      go_ret
      exact ⟨by rw [HF.out]; rfl, HBEL.out.trans ((nxt (nxt ((Below.refl w0.heap.size w0).drew) hb2) hb3).mono hsz)⟩
   ·rw [show decide ((ya, yb).2.size ≤ 64) = false from decide_eq_false hs] at HK
    have HF := hidM (ordB_key hy hs)
    clear hat hbel hy hs HO
    go_wp2_with fail
    refine wp_region_any (by kernel_rfl) ?_
    change wpAny _ _ _ _ _ _ _ (World.drew _)
    refine wpAny_take (i := 0) (oi := { dst := some 10, op := Go.Op.move (Go.Operand.tmp 0), type := 61, pos := "thresherref9.go:140", after := #[], guard := none }) (v := ?v0y1) rfl (by kernel_rfl) (by kernel_rfl) (by kernel_rfl) (fun _ _ _ h => h) (Or.inl ⟨by rfl, ?h0y1⟩) ?r0y1
    case h0y1 => (intro W; go_simp; try with_reducible rfl)
    simp only [Act.put, List.setIfInBounds_toArray, List.set_cons_zero, List.set_cons_succ]
    refine wpAny_take (i := 1) (oi := { dst := some 11, op := Go.Op.move (Go.Operand.tmp 3), type := 3, pos := "thresherref9.go:140", after := #[], guard := none }) (v := ?v1y2) rfl (by kernel_rfl) (by kernel_rfl) (by kernel_rfl) (fun _ _ _ h => h) (Or.inl ⟨by rfl, ?h1y2⟩) ?r1y2
    case h1y2 => (intro W; go_simp; try with_reducible rfl)
    simp only [Act.put, List.setIfInBounds_toArray, List.set_cons_zero, List.set_cons_succ]
    refine wpAny_take (i := 2) (oi := { dst := some 12, op := Go.Op.indexAddr 61 (Go.Operand.tmp 10) (Go.Operand.tmp 11), type := 0, pos := "thresherref9.go:140", after := #[{ on := 0, ground := Go.Ground.data }, { on := 1, ground := Go.Ground.data }], guard := none }) (v := ?v2y3) rfl (by kernel_rfl) (by kernel_rfl) (by kernel_rfl) (fun _ _ _ h => h) (Or.inl ⟨by rfl, ?h2y3⟩) ?r2y3
    case h2y3 => (intro W; go_simp; try with_reducible rfl)
    simp only [Act.put, List.setIfInBounds_toArray, List.set_cons_zero, List.set_cons_succ]
    refine wpAny_take (i := 3) (oi := { dst := some 13, op := Go.Op.fieldAddr 129 (Go.Operand.tmp 12) 0, type := 0, pos := "thresherref9.go:140", after := #[{ on := 2, ground := Go.Ground.data }], guard := none }) (v := ?v3y4) rfl (by kernel_rfl) (by kernel_rfl) (by kernel_rfl) (fun _ _ _ h => h) (Or.inl ⟨by rfl, ?h3y4⟩) ?r3y4
    case h3y4 => (intro W; go_simp; try with_reducible rfl)
    simp only [Act.put, List.setIfInBounds_toArray, List.set_cons_zero, List.set_cons_succ]
    refine wpAny_ready (rs := [4]) (by kernel_rfl) (by simp) ?_
    refine AllReady.cons (o := { dst := some 14, op := Go.Op.load 124 (Go.Operand.tmp 13), type := 124, pos := "thresherref9.go:140", after := #[{ on := 3, ground := Go.Ground.data }], guard := none }) rfl (fun K hK => ?_) AllReady.nil
    go_simp
    refine hK _ _ ?_
    clear hK K
    try simp only [Act.put, List.setIfInBounds_toArray, List.set_cons_zero, List.set_cons_succ]
    refine wpAny_ready (rs := [5]) (by kernel_rfl) (by simp) ?_
    refine AllReady.cons (o := { dst := some 15, op := Go.Op.call { callee := Go.Callee.value (Go.Operand.func 120), args := #[Go.Operand.tmp 14], argTypes := #[124] }, type := 4, pos := "thresherref9.go:140", after := #[{ on := 4, ground := Go.Ground.data }], guard := none }) rfl (fun K hK => ?_) AllReady.nil
    go_simp
    refine (HK.out _).mono ?_
    rintro e W1 ⟨rfl, hb1⟩
    refine hK _ _ ?_
    clear hK K
    try simp only [Act.put, List.setIfInBounds_toArray, List.set_cons_zero, List.set_cons_succ]
    refine wpAny_take (i := 6) (oi := { dst := some 16, op := Go.Op.unOp Go.UnOp.not 4 (Go.Operand.tmp 15), type := 4, pos := "thresherref9.go:140", after := #[{ on := 5, ground := Go.Ground.data }], guard := none }) (v := ?v6y5) rfl (by kernel_rfl) (by kernel_rfl) (by kernel_rfl) (fun _ _ _ h => h) (Or.inl ⟨by rfl, ?h6y5⟩) ?r6y5
    case h6y5 => (intro W; go_simp; try with_reducible rfl)
    simp only [Act.put, List.setIfInBounds_toArray, List.set_cons_zero, List.set_cons_succ]
    refine wpAny_take (i := 7) (oi := { dst := some 17, op := Go.Op.move (Go.Operand.tmp 16), type := 4, pos := "thresherref9.go:140", after := #[{ on := 6, ground := Go.Ground.data }, { on := 5, ground := Go.Ground.chain }], guard := none }) (v := ?v7y6) rfl (by kernel_rfl) (by kernel_rfl) (by kernel_rfl) (fun _ _ _ h => h) (Or.inl ⟨by rfl, ?h7y6⟩) ?r7y6
    case h7y6 => (intro W; go_simp; try with_reducible rfl)
    simp only [Act.put, List.setIfInBounds_toArray, List.set_cons_zero, List.set_cons_succ]
    refine wpAny_take (i := 8) (oi := { dst := some 18, op := Go.Op.move (Go.Operand.tmp 3), type := 3, pos := "thresherref9.go:140", after := #[{ on := 7, ground := Go.Ground.guard }], guard := some (7, false) }) (v := undef) rfl (by kernel_rfl) (by kernel_rfl) (by kernel_rfl) (fun _ _ _ h => h) (Or.inr ⟨by rfl, rfl⟩) ?_
    simp only [Act.put, List.setIfInBounds_toArray, List.set_cons_zero, List.set_cons_succ]
    refine wpAny_take (i := 9) (oi := { dst := some 19, op := Go.Op.binOp Go.BinOp.gtr 3 (Go.Operand.tmp 18) (Go.Operand.const (Go.Value.int Go.IntKind.i64 0)) 3, type := 4, pos := "thresherref9.go:140", after := #[{ on := 8, ground := Go.Ground.data }, { on := 7, ground := Go.Ground.guard }], guard := some (7, false) }) (v := undef) rfl (by kernel_rfl) (by kernel_rfl) (by kernel_rfl) (fun _ _ _ h => h) (Or.inr ⟨by rfl, rfl⟩) ?_
    simp only [Act.put, List.setIfInBounds_toArray, List.set_cons_zero, List.set_cons_succ]
    refine wpAny_take (i := 10) (oi := { dst := some 20, op := Go.Op.move (Go.Operand.tmp 19), type := 4, pos := "thresherref9.go:140", after := #[{ on := 9, ground := Go.Ground.data }, { on := 7, ground := Go.Ground.chain }, { on := 7, ground := Go.Ground.guard }], guard := some (7, false) }) (v := undef) rfl (by kernel_rfl) (by kernel_rfl) (by kernel_rfl) (fun _ _ _ h => h) (Or.inr ⟨by rfl, rfl⟩) ?_
    simp only [Act.put, List.setIfInBounds_toArray, List.set_cons_zero, List.set_cons_succ]
    refine wpAny_take (i := 11) (oi := { dst := some 21, op := Go.Op.move (Go.Operand.tmp 0), type := 61, pos := "thresherref9.go:140", after := #[{ on := 10, ground := Go.Ground.guard }], guard := some (10, true) }) (v := undef) rfl (by kernel_rfl) (by kernel_rfl) (by kernel_rfl) (fun _ _ _ h => h) (Or.inr ⟨by rfl, rfl⟩) ?_
    simp only [Act.put, List.setIfInBounds_toArray, List.set_cons_zero, List.set_cons_succ]
    refine wpAny_take (i := 12) (oi := { dst := some 22, op := Go.Op.move (Go.Operand.tmp 3), type := 3, pos := "thresherref9.go:140", after := #[{ on := 10, ground := Go.Ground.guard }], guard := some (10, true) }) (v := undef) rfl (by kernel_rfl) (by kernel_rfl) (by kernel_rfl) (fun _ _ _ h => h) (Or.inr ⟨by rfl, rfl⟩) ?_
    simp only [Act.put, List.setIfInBounds_toArray, List.set_cons_zero, List.set_cons_succ]
    refine wpAny_take (i := 13) (oi := { dst := some 23, op := Go.Op.binOp Go.BinOp.sub 3 (Go.Operand.tmp 22) (Go.Operand.const (Go.Value.int Go.IntKind.i64 1)) 3, type := 3, pos := "thresherref9.go:140", after := #[{ on := 12, ground := Go.Ground.data }, { on := 10, ground := Go.Ground.guard }], guard := some (10, true) }) (v := undef) rfl (by kernel_rfl) (by kernel_rfl) (by kernel_rfl) (fun _ _ _ h => h) (Or.inr ⟨by rfl, rfl⟩) ?_
    simp only [Act.put, List.setIfInBounds_toArray, List.set_cons_zero, List.set_cons_succ]
    refine wpAny_take (i := 14) (oi := { dst := some 24, op := Go.Op.indexAddr 61 (Go.Operand.tmp 21) (Go.Operand.tmp 23), type := 0, pos := "thresherref9.go:140", after := #[{ on := 11, ground := Go.Ground.data }, { on := 13, ground := Go.Ground.data }, { on := 10, ground := Go.Ground.guard }], guard := some (10, true) }) (v := undef) rfl (by kernel_rfl) (by kernel_rfl) (by kernel_rfl) (fun _ _ _ h => h) (Or.inr ⟨by rfl, rfl⟩) ?_
    simp only [Act.put, List.setIfInBounds_toArray, List.set_cons_zero, List.set_cons_succ]
    refine wpAny_take (i := 15) (oi := { dst := some 25, op := Go.Op.fieldAddr 129 (Go.Operand.tmp 24) 0, type := 0, pos := "thresherref9.go:140", after := #[{ on := 14, ground := Go.Ground.data }, { on := 10, ground := Go.Ground.guard }], guard := some (10, true) }) (v := undef) rfl (by kernel_rfl) (by kernel_rfl) (by kernel_rfl) (fun _ _ _ h => h) (Or.inr ⟨by rfl, rfl⟩) ?_
    simp only [Act.put, List.setIfInBounds_toArray, List.set_cons_zero, List.set_cons_succ]
    refine wpAny_take (i := 16) (oi := { dst := some 26, op := Go.Op.load 124 (Go.Operand.tmp 25), type := 124, pos := "thresherref9.go:140", after := #[{ on := 15, ground := Go.Ground.data }, { on := 10, ground := Go.Ground.guard }], guard := some (10, true) }) (v := undef) rfl (by kernel_rfl) (by kernel_rfl) (by kernel_rfl) (fun _ _ _ h => h) (Or.inr ⟨by rfl, rfl⟩) ?_
    simp only [Act.put, List.setIfInBounds_toArray, List.set_cons_zero, List.set_cons_succ]
    refine wpAny_take (i := 17) (oi := { dst := some 27, op := Go.Op.move (Go.Operand.tmp 0), type := 61, pos := "thresherref9.go:140", after := #[{ on := 10, ground := Go.Ground.guard }], guard := some (10, true) }) (v := undef) rfl (by kernel_rfl) (by kernel_rfl) (by kernel_rfl) (fun _ _ _ h => h) (Or.inr ⟨by rfl, rfl⟩) ?_
    simp only [Act.put, List.setIfInBounds_toArray, List.set_cons_zero, List.set_cons_succ]
    refine wpAny_take (i := 18) (oi := { dst := some 28, op := Go.Op.move (Go.Operand.tmp 3), type := 3, pos := "thresherref9.go:140", after := #[{ on := 10, ground := Go.Ground.guard }], guard := some (10, true) }) (v := undef) rfl (by kernel_rfl) (by kernel_rfl) (by kernel_rfl) (fun _ _ _ h => h) (Or.inr ⟨by rfl, rfl⟩) ?_
    simp only [Act.put, List.setIfInBounds_toArray, List.set_cons_zero, List.set_cons_succ]
    refine wpAny_take (i := 19) (oi := { dst := some 29, op := Go.Op.indexAddr 61 (Go.Operand.tmp 27) (Go.Operand.tmp 28), type := 0, pos := "thresherref9.go:140", after := #[{ on := 17, ground := Go.Ground.data }, { on := 18, ground := Go.Ground.data }, { on := 10, ground := Go.Ground.guard }], guard := some (10, true) }) (v := undef) rfl (by kernel_rfl) (by kernel_rfl) (by kernel_rfl) (fun _ _ _ h => h) (Or.inr ⟨by rfl, rfl⟩) ?_
    simp only [Act.put, List.setIfInBounds_toArray, List.set_cons_zero, List.set_cons_succ]
    refine wpAny_take (i := 20) (oi := { dst := some 30, op := Go.Op.fieldAddr 129 (Go.Operand.tmp 29) 0, type := 0, pos := "thresherref9.go:140", after := #[{ on := 19, ground := Go.Ground.data }, { on := 10, ground := Go.Ground.guard }], guard := some (10, true) }) (v := undef) rfl (by kernel_rfl) (by kernel_rfl) (by kernel_rfl) (fun _ _ _ h => h) (Or.inr ⟨by rfl, rfl⟩) ?_
    simp only [Act.put, List.setIfInBounds_toArray, List.set_cons_zero, List.set_cons_succ]
    refine wpAny_take (i := 21) (oi := { dst := some 31, op := Go.Op.load 124 (Go.Operand.tmp 30), type := 124, pos := "thresherref9.go:140", after := #[{ on := 20, ground := Go.Ground.data }, { on := 10, ground := Go.Ground.guard }], guard := some (10, true) }) (v := undef) rfl (by kernel_rfl) (by kernel_rfl) (by kernel_rfl) (fun _ _ _ h => h) (Or.inr ⟨by rfl, rfl⟩) ?_
    simp only [Act.put, List.setIfInBounds_toArray, List.set_cons_zero, List.set_cons_succ]
    refine wpAny_take (i := 22) (oi := { dst := some 32, op := Go.Op.call { callee := Go.Callee.value (Go.Operand.func 117), args := #[Go.Operand.tmp 26, Go.Operand.tmp 31], argTypes := #[124, 124] }, type := 3, pos := "thresherref9.go:140", after := #[{ on := 16, ground := Go.Ground.data }, { on := 21, ground := Go.Ground.data }, { on := 10, ground := Go.Ground.chain }, { on := 10, ground := Go.Ground.guard }], guard := some (10, true) }) (v := undef) rfl (by kernel_rfl) (by kernel_rfl) (by kernel_rfl) (fun _ _ _ h => h) (Or.inr ⟨by rfl, rfl⟩) ?_
    simp only [Act.put, List.setIfInBounds_toArray, List.set_cons_zero, List.set_cons_succ]
    refine wpAny_take (i := 23) (oi := { dst := some 33, op := Go.Op.binOp Go.BinOp.geq 3 (Go.Operand.tmp 32) (Go.Operand.const (Go.Value.int Go.IntKind.i64 0)) 3, type := 4, pos := "thresherref9.go:140", after := #[{ on := 22, ground := Go.Ground.data }, { on := 10, ground := Go.Ground.guard }], guard := some (10, true) }) (v := undef) rfl (by kernel_rfl) (by kernel_rfl) (by kernel_rfl) (fun _ _ _ h => h) (Or.inr ⟨by rfl, rfl⟩) ?_
    simp only [Act.put, List.setIfInBounds_toArray, List.set_cons_zero, List.set_cons_succ]
    refine wpAny_take (i := 24) (oi := { dst := some 34, op := Go.Op.pick (Go.Operand.tmp 20) (Go.Operand.tmp 33) (Go.Operand.const (Go.Value.bool false)), type := 4, pos := "thresherref9.go:140", after := #[{ on := 10, ground := Go.Ground.data }, { on := 23, ground := Go.Ground.data }, { on := 7, ground := Go.Ground.guard }], guard := some (7, false) }) (v := undef) rfl (by kernel_rfl) (by kernel_rfl) (by kernel_rfl) (fun _ _ _ h => h) (Or.inr ⟨by rfl, rfl⟩) ?_
    simp only [Act.put, List.setIfInBounds_toArray, List.set_cons_zero, List.set_cons_succ]
    refine wpAny_take (i := 25) (oi := { dst := some 35, op := Go.Op.pick (Go.Operand.tmp 17) (Go.Operand.const (Go.Value.bool true)) (Go.Operand.tmp 34), type := 4, pos := "thresherref9.go:140", after := #[{ on := 7, ground := Go.Ground.data }, { on := 24, ground := Go.Ground.data }], guard := none }) (v := ?v25y7) rfl (by kernel_rfl) (by kernel_rfl) (by kernel_rfl) (fun _ _ _ h => h) (Or.inl ⟨by rfl, ?h25y7⟩) ?r25y7
    case h25y7 => (intro W; go_simp; try with_reducible rfl)
    simp only [Act.put, List.setIfInBounds_toArray, List.set_cons_zero, List.set_cons_succ]
    refine wpAny_done (by kernel_rfl) ?_ _
    go_wp2
    go_ret
    exact ⟨by rw [HF.out]; rfl, HBEL.out.trans ((nxt ((Below.refl w0.heap.size w0).drew) hb1).mono hsz)⟩
  ·have hlt' : l.length ≤ k := by omega
   have HF := hidM (HO.out.fin hlt')
   by_cases hm : l.length ≤ 1536
   ·have hmi : (l.length : Int) ≤ 1536 := by omega
    rw [decide_eq_true hm] at HF
    go_wp2
    go_ret
    exact ⟨by rw [HF.out]; rfl, hbel⟩
   ·have hmi : ¬ (l.length : Int) ≤ 1536 := by omega
    rw [decide_eq_false hm] at HF
    go_wp2
    go_ret
    exact ⟨by rw [HF.out]; rfl, hbel⟩
set_option maxRecDepth 100000
theorem Tryz.infoRow4 : (Tryz.prog.info? 129).map (fun i => (i.zero, i.size, i.bytes)) = some (some (.agg #[.int .i64 0, .string ⟨#[]⟩, .int .i64 0, .slice none 0 0]), 4, 56) := by kernel_rfl
def bareR (l : List Rw) : List Rw := l.map fun r => (r.1, (0, []))
theorem bare_rise (l : List Rw) : RiseK (bareR l) ↔ RiseK l := by unfold bareR RiseK; rw [List.pairwise_map]
theorem ord_bare (l : List Rw) : ordB (bareR l) = ordB l := by
 unfold ordB
 rw [show decide (RiseK (bareR l)) = decide (RiseK l) from decide_eq_decide.2 (bare_rise l)]
 unfold bareR
 rw [List.all_map, List.length_map]
 rfl
theorem okRows_bare (l : List Rw) : okRows 1 0 (bareR l) = ordB l := by
 rw [okRows_ord (agg := 1) (bound := 0) (by decide) (fun r hr => by
  unfold bareR at hr
  obtain ⟨x, _, rfl⟩ := List.mem_map.1 hr
  rw [mayN (by decide) (by decide)]
  rfl), ord_bare]
def bareRaw (l : List Rw) : List Raw := l.map fun r => (r.1, 0, (none, 0, 0))
def bareX (l : List Rw) (k : Nat) : List Raw := bareRaw (l.take k) ++ List.replicate (l.length - k) noRaw
theorem bareX_len (l : List Rw) {k : Nat} (h : k ≤ l.length) : (bareX l k).length = l.length := by unfold bareX bareRaw; simp; omega
theorem bareX_get (l : List Rw) {k : Nat} (h : k < l.length) : (bareX l k)[k]? = some noRaw := by
 unfold bareX bareRaw
 rw [List.getElem?_append_right (by simp; omega), List.length_map, List.length_take, Nat.min_eq_left (by omega), Nat.sub_self, List.getElem?_replicate, if_pos (by omega)]
theorem bareX_set (l : List Rw) {k : Nat} {r : Rw} (h : l[k]? = some r) : (bareX l k).set k (r.1, 0, (none, 0, 0)) = bareX l (k + 1) := by
 have hk : k < l.length := (List.getElem?_eq_some_iff.1 h).1
 unfold bareX bareRaw
 rw [List.set_append_right _ _ (by simp; omega), List.length_map, List.length_take, Nat.min_eq_left (by omega), Nat.sub_self, List.take_add_one, h, show l.length - k = (l.length - (k + 1)) + 1 by omega, List.replicate_succ]
 simp
theorem flatW_key (xs : List Raw) (p : Nat) (x : Raw) (k : Ky) (hx : xs[p]? = some x) : flatW (xs.set p (k, x.2)) = ((flatW xs).set (p * 4) (.int .i64 k.1)).set (p * 4 + 1) (.string k.2) := by
 induction xs generalizing p with
 | nil => simp at hx
 | cons a l ih =>
  cases p with
  | zero => simp at hx; subst hx; rfl
  | succ p =>
   have hx' : l[p]? = some x := by simpa using hx
   rw [List.set_cons_succ]
   show encW a ++ flatW (l.set p (k, x.2)) = (((encW a ++ flatW l).set ((p + 1) * 4) (.int .i64 k.1)).set ((p + 1) * 4 + 1) (.string k.2))
   rw [ih p hx']
   have e0 : (p + 1) * 4 = (encW a).length + (p * 4) := by simp [encW]; omega
   have e1 : (p + 1) * 4 + 1 = (encW a).length + (p * 4 + 1) := by simp [encW]; omega
   rw [e1, e0, List.set_append_right _ _ (by omega), List.set_append_right _ _ (by omega)]
   simp
theorem made_flat (n : Nat) : (madeCells #[Value.int .i64 0, .string ⟨#[]⟩, .int .i64 0, .slice none 0 0] (n * 4)).toList = flatW (List.replicate n noRaw) := by
 induction n with
 | zero => simp [madeCells, flatW]
 | succ n ih =>
  have e : flatW (List.replicate (n + 1) noRaw) = flatW (List.replicate n noRaw) ++ [.int .i64 0, .string ⟨#[]⟩, .int .i64 0, .slice none 0 0] := by
   rw [List.replicate_succ', flatW_app]; rfl
  rw [e, ← ih]
  apply List.ext_getElem?
  intro j
  have hlen : (madeCells #[Value.int .i64 0, .string ⟨#[]⟩, .int .i64 0, .slice none 0 0] (n * 4)).toList.length = n * 4 := by simp [madeCells]
  by_cases hj : j < n * 4
  ·rw [List.getElem?_append_left (by omega)]
   simp [madeCells, hj, show j < (n + 1) * 4 by omega]
  ·rw [List.getElem?_append_right (by omega), hlen]
   by_cases h4 : j < n * 4 + 4
   ·obtain ⟨d, hd, rfl⟩ : ∃ d, d < 4 ∧ j = n * 4 + d := ⟨j - n * 4, by omega, by omega⟩
    have hm : (n * 4 + d) % 4 = d := by omega
    rw [show n * 4 + d - n * 4 = d by omega]
    simp only [madeCells, Array.toList_map, List.getElem?_map, Array.toList_range]
    rw [List.getElem?_range (by omega)]
    simp only [Option.map_some, show (#[Value.int .i64 0, .string ⟨#[]⟩, .int .i64 0, .slice none 0 0] : Array Value).size = 4 from rfl, hm]
    match d, hd with
    | 0, _ => rfl
    | 1, _ => rfl
    | 2, _ => rfl
    | 3, _ => rfl
   ·rw [List.getElem?_eq_none (by simp [madeCells]; omega), List.getElem?_eq_none (by simp; omega)]
theorem bare_start (W : World) (base : Nat) (l : List Rw) (hb : base ≤ W.heap.size) (hl : l.length ≤ 100000) :
  ∃ W1, (Instr.makeSlice 61 (.int .i64 (l.length : Int)) (.int .i64 (l.length : Int))).run Tryz.prog W = .ok (runsV W.heap.size l.length) W1 ∧ OwnX W1 base (runsV W.heap.size l.length) (bareX l 0) ∧ Below W.heap.size W W1 ∧ W.heap.size < W1.heap.size := by
 obtain ⟨i0, hi, hz0, hz1, hz2⟩ := info_parts Tryz.infoRow4
 obtain ⟨W1, h1, h2, h3⟩ := run_make_full (P := Tryz.prog) W base 61 129 i0 _ 4 Tryz.underlying61 hi hz0 hz1 .i64 .i64 l.length (by rw [hz2]; omega) (by unfold maxLen; omega) hb
 have e : bareX l 0 = List.replicate l.length noRaw := by unfold bareX bareRaw; simp
 refine ⟨W1, h1, ?_, (Below.refl _ _).grown h3 (Nat.le_refl _) (fun k hk => by cases hk), (h2.lt W.heap.size rfl).2⟩
 unfold OwnX
 rw [e, List.length_replicate, ← made_flat]
 exact h2
theorem bare_step {W : World} {base g k : Nat} {l : List Rw} {r : Rw} (h : OwnX W base (runsV g l.length) (bareX l k)) (hr : l[k]? = some r) :
  OwnX ((W.setCell ⟨g, k * 4, none⟩ (.int .i64 r.1.1)).setCell ⟨g, k * 4 + 1, none⟩ (.string r.1.2)) base (runsV g l.length) (bareX l (k + 1)) := by
 have hk : k < l.length := (List.getElem?_eq_some_iff.1 hr).1
 have h0 : W.ownsRow base 129 4 (runsV g l.length) l.length (flatW (bareX l k)) := by
  have h' := h
  unfold OwnX at h'
  rwa [bareX_len l (by omega)] at h'
 have h1 := (h0.stored (k * 4) (.int .i64 r.1.1)).1
 have h2 := (h1.stored (k * 4 + 1) (.string r.1.2)).1
 rw [← flatW_key (bareX l k) k noRaw r.1 (bareX_get l hk)] at h2
 rw [show ((r.1, noRaw.2) : Raw) = (r.1, 0, (none, 0, 0)) from rfl, bareX_set l hr] at h2
 unfold OwnX
 rw [bareX_len l (by omega)]
 exact h2
theorem bare_own {W : World} {base g : Nat} {l : List Rw} (h : OwnX W base (runsV g l.length) (bareX l l.length)) : OwnW W base (runsV g l.length) (bareR l) := by
 refine ⟨_, h, ?_, fun i x r hx hr => ?_⟩
 ·rw [bareX_len l (Nat.le_refl _)]; unfold bareR; simp
 ·have e : bareX l l.length = bareRaw l := by unfold bareX; simp
  rw [e] at hx
  unfold bareRaw at hx
  unfold bareR at hr
  rw [List.getElem?_map] at hx hr
  cases hl : l[i]? with
  | none => rw [hl] at hx; simp at hx
  | some y =>
   rw [hl] at hx hr
   simp at hx hr
   subst hx hr
   exact ⟨rfl, rfl, World.ownsRow_nil _ _ _ _⟩
theorem bare_lt {W : World} {base g n : Nat} {xs : List Raw} (h : OwnX W base (runsV g n) xs) : base ≤ g ∧ g < W.heap.size ∧ ∀ j, W.frozen? ⟨g, j, none⟩ = false := by
 rcases h.2 with ⟨e, _⟩ | ⟨g', cap, cur, e, hb, hg, _⟩
 ·cases e
 ·injection e with e1 e2 e3
  injection e1 with e1
  injection e1 with e1
  subst e1
  exact ⟨hb, (Array.getElem?_eq_some_iff.1 hg).1, fun j => by simp [World.frozen?, hg]⟩
theorem bare_cell {W : World} {base g k : Nat} {l : List Rw} (h : OwnX W base (runsV g l.length) (bareX l k)) (hk : k < l.length) : (∃ u, W.cell? ⟨g, k * 4, none⟩ = some u) ∧ ∃ u, W.cell? ⟨g, k * 4 + 1, none⟩ = some u := by
 have h0 : W.ownsRow base 129 4 (runsV g l.length) l.length (flatW (bareX l k)) := by
  have h' := h
  unfold OwnX at h'
  rwa [bareX_len l (by omega)] at h'
 obtain ⟨q0, q1, -, -⟩ := flatW_get _ _ _ (bareX_get l hk)
 exact ⟨⟨_, by rw [h0.cellAt _ (by omega)]; exact q0⟩, ⟨_, by rw [h0.cellAt _ (by omega)]; exact q1⟩⟩
set_option maxRecDepth 100000
set_option maxHeartbeats 1600000 in
theorem mayStand_any (v : Value) (l : List Rw) (w : World) (h : WS w v l) (hl : l.length ≤ 100000) :
  Calls Tryz.prog 165 #[v] w (BoolR w (ordB l)) := by
 obtain ⟨va, vc, rfl, hsh⟩ := h
 obtain ⟨W1, hmk, hX0, hb1, hlt1⟩ := bare_start w w.heap.size l (Nat.le_refl _) hl
 obtain ⟨g, hg⟩ : ∃ g, g = w.heap.size := ⟨_, rfl⟩
 have HC := hidM (fun W (hX : OwnX W w.heap.size (runsV g l.length) (bareX l l.length)) => rcheck_any 1 0 (runsV g l.length) (bareR l) W (bare_own hX).ws (by unfold bareR; simp; exact hl) (fun r hr => by unfold bareR at hr; obtain ⟨y, _, rfl⟩ := List.mem_map.1 hr; simp) (bare_own hX).cap)
 rw [okRows_bare] at HC
 have HMK := hidM hmk
 clear hmk
 go_enter Tryz.func165, Tryz.ntmps165
 have hmk := HMK.out
 go_wp2
 have hX0 : OwnX W1 w.heap.size (runsV g l.length) (bareX l 0) := by rw [hg]; exact hX0
 rw [← hg]
 have HG := hidM hg
 clear hmk hg HMK
 go_loopw [11] (fun i wr => ∃ k : Nat, k ≤ l.length ∧ i = .int .i64 k ∧ OwnX wr w.heap.size (runsV g l.length) (bareX l k) ∧ Below w.heap.size w wr) (fun i _ => l.length - (intOf i).toNat)
 case atStart => exact ⟨0, by omega, rfl, hX0, hb1⟩
 case round =>
  clear hX0 hb1 hlt1
  rename World => w0
  obtain ⟨k, hk, rfl, hX, hbel⟩ := hrel
  have hsz := hbel.size
  by_cases hlt : k < l.length
  ·obtain ⟨⟨⟨ya, yb⟩, yn, yl⟩, hy⟩ := getSome hlt
   rcases hsh with rfl | ⟨b, off, rfl, hb, hat⟩
   ·simp at hlt
   obtain ⟨c0, c1, c2, s1, p1, c3, n1⟩ := (hat.below hbel hb) k _ hy
   simp only at c0 c1 c2 c3 n1
   have hst : ∀ (W : World) (o : Obj), Below W.heap.size W (W.alloc o) := fun W o => (Below.refl _ _).alloc (Nat.le_refl _) _
   obtain ⟨Wa, hWa⟩ : ∃ Wa : World, Wa = w0.alloc (.cells #[.int .i64 ya, .string yb, .int .i64 yn, .slice s1 yl.length p1] 129) := ⟨_, rfl⟩
   have hba : Below w0.heap.size w0 Wa := by rw [hWa]; exact hst _ _
   have B4 : Blk4 Wa w0.heap.size (.int .i64 ya) (.string yb) (.int .i64 yn) (.slice s1 yl.length p1) := by rw [hWa]; exact Blk4.new w0 _ _ _ _
   obtain ⟨a0, a1, a2, a3, -⟩ := B4.cells
   have hXa := hX.below hba
   obtain ⟨hg1, hg2, hfz⟩ := bare_lt hXa
   obtain ⟨⟨u0, hu0⟩, ⟨u1, hu1⟩⟩ := bare_cell hXa hlt
   have f0 := hfz (k * 4)
   have f1 := hfz (k * 4 + 1)
   rw [hWa] at hu0 hu1 f0 f1
   have hXs := bare_step hXa hy
   simp only at hXs
   rw [hWa] at hXs hba
   have HX := hidM hXs
   have HB := hidM (((hbel.trans (hba.mono hsz)).setCell (p := ⟨g, k * 4, none⟩) hg1 (.int .i64 ya)).setCell (p := ⟨g, k * 4 + 1, none⟩) hg1 (.string yb))
   clear hWa hbel hat n1 hba B4 hy hX hXa hXs hst hfz a0 a1 a2 a3
   go_wp2_with (first | fail)
   go_roundw
   case rel => exact ⟨k + 1, by omega, by go_num, HX.out, HB.out⟩
   case measure => simp [intOf]; omega
  ·obtain rfl : k = l.length := by omega
   have HX := hidM (HC.out w0 hX)
   have HB := hidM hbel
   cases ho : ordB l with
   | true =>
    rw [ho] at HX
    go_wp2_with (go_at_call 43; refine HX.out.mono ?_; rintro e W2 ⟨rfl, hb2⟩)
    go_ret
    exact ⟨by rw [ho]; rfl, nxt HB.out hb2⟩
   | false =>
    rw [ho] at HX
    go_wp2_with (go_at_call 43; refine HX.out.mono ?_; rintro e W2 ⟨rfl, hb2⟩)
    go_ret
    exact ⟨by rw [ho]; rfl, nxt HB.out hb2⟩
set_option maxRecDepth 100000
theorem r1bytes_ok (n : Int) (w : World) (h : Okn n) : Calls Tryz.prog 77 #[.int .i64 n] w fun e w' => e = .returned (.string (bytesOf n)) ∧ Below w.heap.size w w' := rbytes_any n w h.1 h.2
set_option maxHeartbeats 400000 in
theorem rkbytes_any (x : Ky) (w : World) (h : x.2.size ≤ 64) (h1 : -9223372036854775808 ≤ x.1) (h2 : x.1 ≤ 9223372036854775807) :
  Calls Tryz.prog 118 #[.agg #[.int .i64 x.1, .string x.2]] w fun e w' => e = .returned (.string (kBytes x)) ∧ Below w.heap.size w w' := by
 obtain ⟨a, b⟩ := x
 have l1 := bytes_len a
 have l2 := bytes_len (b.size : Int)
 simp only at h h1 h2
 have hadd : ∀ W, (Op.stringOp .add (bytesOf a) (bytesOf (b.size : Int))).run Tryz.prog W = .ok (.string (bytesOf a ++ bytesOf (b.size : Int))) W := fun W => run_string_add_sum W _ _ (by omega)
 have hadd2 : ∀ W, (Op.stringOp .add (bytesOf a ++ bytesOf (b.size : Int)) b).run Tryz.prog W = .ok (.string (bytesOf a ++ bytesOf (b.size : Int) ++ b)) W := fun W => run_string_add_sum W _ _ (by rw [ByteArray.size_append]; omega)
 have o1 : Okn a := ⟨h1, h2⟩
 have o2 : Okn (b.size : Int) := ⟨by omega, by omega⟩
 unfold kBytes
 simp only
 clear h h1 h2 l1 l2
 go_enter Tryz.func118, Tryz.ntmps118
 go_wp2
 go_region_held3 (fun W => W.cell? ⟨w.heap.size, 0, none⟩ = some (.int .i64 a) ∧ W.cell? ⟨w.heap.size, 1, none⟩ = some (.string b) ∧ w.heap.size < W.heap.size ∧ Below w.heap.size w W) (first | exact keepB (by assumption) (by assumption) | exact startB w _ a b 124 (boxed w a b _).1 (boxed w a b _).2.1 (boxed w a b _).2.2.1 (boxed w a b _).2.2.2)
  (first | (go_at_call 77; refine (r1bytes_ok _ _ (by assumption)).mono ?_; rintro e w' ⟨rfl, hb2⟩))
 obtain ⟨_, _, _, hbelW⟩ := ‹_ ∧ _ ∧ _ ∧ Below w.heap.size w _›
 go_wp2
 go_ret
 exact ⟨rfl, hbelW⟩
theorem isNumber_any (n : Int) (w : World) : Calls Tryz.prog 164 #[.int .i64 n] w fun e w' => e = .returned (.bool (mayP n)) ∧ w' = w := by
 unfold mayP
 by_cases h1 : 1 ≤ n
 ·by_cases h2 : n ≤ 8
  ·rw [decide_eq_true h1, decide_eq_true h2]
   go_enter Tryz.func164, Tryz.ntmps164
   go_wp2
   go_ret
   exact ⟨rfl, rfl⟩
  ·rw [decide_eq_true h1, decide_eq_false h2]
   go_enter Tryz.func164, Tryz.ntmps164
   go_wp2
   go_ret
   exact ⟨rfl, rfl⟩
 ·rw [decide_eq_false h1, Bool.false_and]
  go_enter Tryz.func164, Tryz.ntmps164
  go_wp2
  go_ret
  exact ⟨rfl, rfl⟩
theorem hash_any (s : ByteArray) (w : World) (hs : s.size ≤ maxLen) : Calls Tryz.prog 201 #[.string s] w fun e w' => e = .returned (.int .u32 (fnv s)) ∧ w' = w := by
 unfold maxLen at hs
 go_enter Tryz.func201, Tryz.ntmps201
 go_wp2
 go_loop [3, 7] (fun c i => ∃ (k : Nat) (x : Int), k ≤ s.size ∧ i = .int .i64 k ∧ c = .int .u32 x ∧ fnvF x (s.data.toList.drop k) = fnv s) (fun _ i => s.size - (intOf i).toNat)
 case atStart => exact ⟨0, 2166136261, by omega, rfl, rfl, rfl⟩
 case round =>
  obtain ⟨k, x, hk, rfl, rfl, hx⟩ := hrel
  by_cases hlt : k < s.size
  ·rw [fnv_step s k hlt] at hx
   have hb : ((s[k].toNat : Nat) : Int) % 4294967296 = (s[k].toNat : Int) := by have := s[k].toNat_lt; omega
   unfold fnv1 at hx
   go_wp2
   go_round
   case rel => exact ⟨k + 1, _, by omega, by go_num, rfl, hx⟩
   case measure => simp [intOf]; omega
  ·rw [fnv_end s k (by omega)] at hx
   subst hx
   go_wp2
   go_ret
   exact ⟨rfl, rfl⟩
theorem kBytes_small {k : Ky} (h : k.2.size ≤ 64) : (kBytes k).size ≤ maxLen := by
 have l1 := bytes_len k.1
 have l2 := bytes_len (k.2.size : Int)
 unfold kBytes maxLen
 rw [ByteArray.size_append, ByteArray.size_append]
 omega
set_option maxHeartbeats 400000 in
theorem of_any (n : Int) (k : Ky) (w : World) (h1 : -9223372036854775808 ≤ k.1) (h2 : k.1 ≤ 9223372036854775807) :
  Calls Tryz.prog 166 #[.agg #[.int .i64 k.1, .string k.2], .int .i64 n] w fun e w' => e = .returned (.tuple #[.int .i64 (ofRes n k).1, .int .i64 (ofRes n k).2]) ∧ Below w.heap.size w w' := by
 by_cases hk : k.2.size ≤ 64
 ·have H1 := hidM (fun W => kbytes_any k W hk h1 h2)
  have H2 := hidM (fun W => isNumber_any n W)
  cases hn : mayP n with
  | false =>
   rw [hn] at H2
   rw [ofRes_num hn]
   go_enter Tryz.func166, Tryz.ntmps166
   go_wp2_with (first
    | (go_at_call 168; refine (H1.out _).mono ?_; rintro e W1 ⟨rfl, hb1⟩)
    | (go_at_call 164; refine (H2.out _).mono ?_; rintro e W2 ⟨rfl, rfl⟩))
   go_ret2
   exact ⟨rfl, nxt ((Below.refl _ _).alloc (Nat.le_refl _) _) hb1⟩
  | true =>
   rw [hn] at H2
   have hm := mayP_of hn
   rw [ofRes_ok hk hn, ofP_int hn]
   have H3 := hidM (fun W => hash_any (kBytes k) W (kBytes_small hk))
   have hx := fnv_lt (kBytes k)
   have hxn : IntKind.u32.wrap n = n := by rw [IntKind.wrap_u32]; omega
   have hr0 := Int.emod_nonneg (fnv (kBytes k)) (show n ≠ 0 by omega)
   have hr1 := Int.emod_lt_of_pos (fnv (kBytes k)) (show 0 < n by omega)
   generalize fnv (kBytes k) = x at H3 hx hr0 hr1 ⊢
   have hw : wrap64 (x % n) = x % n := by unfold wrap64; omega
   generalize kBytes k = s at H1 H3
   go_enter Tryz.func166, Tryz.ntmps166
   go_wp2_with (first
    | (go_at_call 168; refine (H1.out _).mono ?_; rintro e W1 ⟨rfl, hb1⟩)
    | (go_at_call 164; refine (H2.out _).mono ?_; rintro e W2 ⟨rfl, rfl⟩)
    | (go_at_call 201; refine (H3.out _).mono ?_; rintro e W2 ⟨rfl, rfl⟩))
   go_ret2
   exact ⟨rfl, nxt ((Below.refl _ _).alloc (Nat.le_refl _) _) hb1⟩
 ·have H1 := hidM (fun W => kbytes_bad k W hk)
  rw [ofRes_key hk]
  go_enter Tryz.func166, Tryz.ntmps166
  go_wp2_with (first
   | (go_at_call 168; refine (H1.out _).mono ?_; rintro e W1 ⟨rfl, hb1⟩))
  go_ret2
  exact ⟨rfl, nxt ((Below.refl _ _).alloc (Nat.le_refl _) _) hb1⟩
set_option maxHeartbeats 400000 in
theorem rof_any (n : Int) (k : Ky) (w : World) (h1 : -9223372036854775808 ≤ k.1) (h2 : k.1 ≤ 9223372036854775807) (hk : k.2.size ≤ 64) (hn : mayP n = true) :
  Calls Tryz.prog 70 #[.agg #[.int .i64 k.1, .string k.2], .int .i64 n] w fun e w' => e = .returned (.int .i64 (ofP n k : Nat)) ∧ Below w.heap.size w w' := by
 have H1 := hidM (fun W => rkbytes_any k W hk h1 h2)
 have hm := mayP_of hn
 have hs := kBytes_small hk
 rw [ofP_int hn]
 have hx := fnv_lt (kBytes k)
 have e0 : fnvF 2166136261 ((kBytes k).data.toList.drop 0) = fnv (kBytes k) := rfl
 generalize kBytes k = s at H1 hs e0 hx ⊢
 have hr0 := Int.emod_nonneg (fnv s) (show n ≠ 0 by omega)
 have hr1 := Int.emod_lt_of_pos (fnv s) (show 0 < n by omega)
 have hxn : IntKind.u32.wrap n = n := by rw [IntKind.wrap_u32]; omega
 generalize fnv s = y at e0 hx hr0 hr1 ⊢
 have hw : wrap64 (y % n) = y % n := by unfold wrap64; omega
 unfold maxLen at hs
 go_enter Tryz.func70, Tryz.ntmps70
 go_wp2_with (first
  | (go_at_call 118; refine (H1.out _).mono ?_; rintro e W1 ⟨rfl, hb1⟩))
 go_loop [5, 7] (fun c i => ∃ (k : Nat) (x : Int), k ≤ s.size ∧ i = .int .i64 k ∧ c = .int .u32 x ∧ fnvF x (s.data.toList.drop k) = y) (fun _ i => s.size - (intOf i).toNat)
 case atStart => exact ⟨0, 2166136261, by omega, rfl, rfl, e0⟩
 case round =>
  obtain ⟨k, x, hk, rfl, rfl, hx'⟩ := hrel
  by_cases hlt : k < s.size
  ·rw [fnv_step s k hlt] at hx'
   have hb : ((s[k].toNat : Nat) : Int) % 4294967296 = (s[k].toNat : Int) := by have := s[k].toNat_lt; omega
   unfold fnv1 at hx'
   go_wp2
   go_round
   case rel => exact ⟨k + 1, _, by omega, by go_num, rfl, hx'⟩
   case measure => simp [intOf]; omega
  ·rw [fnv_end s k (by omega)] at hx'
   subst hx'
   go_wp2
   go_ret
   exact ⟨rfl, nxt ((Below.refl _ _).alloc (Nat.le_refl _) _) hb1⟩
set_option maxRecDepth 100000
set_option maxHeartbeats 800000 in
theorem copied_any (k : Ky) (n : Int) (l : List Int) (a : Option Addr) (cap : Nat) (w : World) (h : NS w (.slice a l.length cap) l) (hl : l.length ≤ 100000) :
  Calls Tryz.prog 167 #[.agg #[.int .i64 k.1, .string k.2, .int .i64 n, .slice a l.length cap]] w fun e w' => (∃ s : Sl, e = .returned (.agg #[.int .i64 k.1, .string k.2, .int .i64 n, slV s]) ∧ OwnL w' w.heap.size (slV s) l) ∧ Below w.heap.size w w' := by
 obtain ⟨ka, kb⟩ := k
 simp only
 have st : ∀ (W : World) (o : Obj), Below W.heap.size W (W.alloc o) := fun W o => (Below.refl _ _).alloc (Nat.le_refl _) _
 obtain ⟨W3, hW3⟩ : ∃ W3 : World, W3 = (w.alloc (.cells #[.int .i64 ka, .string kb, .int .i64 n, .slice a l.length cap] 129)).alloc (.cells #[.int .i64 0, .string ⟨#[]⟩, .int .i64 0, .slice none 0 0] 129) := ⟨_, rfl⟩
 have hb3 : Below w.heap.size w W3 := by rw [hW3]; exact nxt (st _ _) (st _ _)
 have hs3 : W3.heap.size = w.heap.size + 2 := by rw [hW3]; simp
 have B0 : Blk4 W3 w.heap.size (.int .i64 ka) (.string kb) (.int .i64 n) (.slice a l.length cap) := by
  rw [hW3]
  exact (Blk4.new w _ _ _ _).below (st _ _)
 have B1 : Blk4 W3 (w.heap.size + 1) (.int .i64 0) (.string ⟨#[]⟩) (.int .i64 0) (.slice none 0 0) := by
  have := Blk4.new (w.alloc (.cells #[.int .i64 ka, .string kb, .int .i64 n, .slice a l.length cap] 129)) (.int .i64 0) (.string ⟨#[]⟩) (.int .i64 0) (.slice none 0 0)
  rw [hW3]
  simpa using this
 obtain ⟨v4, W4, u1, ho4, hg4, -⟩ := append_ns (base := W3.heap.size) (l := []) 125 (World.ownsRow_nil W3 W3.heap.size 2 1) (h.below hb3) (by simp only [List.length_nil]; omega) (Nat.le_refl _)
 rw [List.nil_append] at ho4
 have hb4 : Below W3.heap.size W3 W4 := (Below.refl _ _).grown hg4 (Nat.le_refl _) (fun k hk => by cases hk)
 obtain ⟨a4, c4, rfl⟩ := ho4.shape
 have C0 := B0.below hb4
 have C1 := B1.below hb4
 obtain ⟨p0, p1, p2, p3, -⟩ := B0.cells
 obtain ⟨-, -, -, q3, -, -, -, g3⟩ := C0.cells
 have D0 := C0.set3 (.slice a4 l.length c4)
 obtain ⟨s0, s1, s2, s3, -⟩ := D0.cells
 have D1 := C1.other (b' := w.heap.size) (o := 3) (u := .slice a4 l.length c4) (by omega)
 obtain ⟨t0, -, -, -, u0, -⟩ := D1.cells
 have E1 := D1.set0 (.int .i64 ka)
 obtain ⟨-, t1, -, -, -, f1, -⟩ := E1.cells
 have E2 := E1.set1 (.string kb)
 obtain ⟨-, -, t2, -, -, -, f2, -⟩ := E2.cells
 have E3 := E2.set2 (.int .i64 n)
 obtain ⟨-, -, -, t3, -, -, -, f3⟩ := E3.cells
 have E4 := E3.set3 (.slice a4 l.length c4)
 have HW := hidM hW3.symm
 have HB := hidM hb3
 have U1 := hidM u1
 have HO := hidM ho4
 have HB4 := hidM hb4
 have HE := hidM E4
 clear hW3 st hb3 u1 hg4 ho4 hb4 B0 B1 C0 C1 D0 D1 E1 E2 E3 E4 h
 go_enter Tryz.func167, Tryz.ntmps167
 go_wp2_with (at_builtin; rw [HW.out]; refine wpList_append_run _ rfl _ _ _ rfl _ _ (.slice a4 l.length c4) W4 rfl rfl U1.out ?_)
 have l1 : w.heap.size < W3.heap.size := by omega
 have l2 : w.heap.size + 1 < W3.heap.size := by omega
 exact bodyPost_ret (results_cell1 rfl rfl HE.out.load) rfl ⟨⟨(a4, l.length, c4), rfl, (own_set1 (own_set1 (own_set1 (own_set1 (own_set1 HO.out l1 _) l2 _) l2 _) l2 _) l2 _).lower (by omega)⟩,
  below_set1 (below_set1 (below_set1 (below_set1 (below_set1 (nxt HB.out HB4.out) (by omega) _) (by omega) _) (by omega) _) (by omega) _) (by omega) _⟩
set_option maxRecDepth 100000
def partsRes (n : Int) (l : List Rw) : List (List Rw) × Int := if mayP n && ordB l then (prt n l, 0) else ([], 1)
abbrev PartsR (w : World) (r : List (List Rw) × Int) : Ending → World → Prop := fun e w' => (∃ v', e = .returned (.tuple #[v', .int .i64 r.2]) ∧ OwnRs w' w.heap.size v' r.1) ∧ Below w.heap.size w w'
theorem ordB_keys {l : List Rw} (h : ordB l = true) : ∀ r ∈ l, r.1.2.size ≤ 64 := by
 unfold ordB at h
 rw [Bool.and_eq_true, Bool.and_eq_true, List.all_eq_true] at h
 exact fun r hr => of_decide_eq_true (h.1.1 r hr)
set_option maxHeartbeats 3200000 in
theorem parts_any (n : Int) (v : Value) (l : List Rw) (w : World) (h : WS w v l) (hl : l.length ≤ 100000) (hls : ∀ r ∈ l, r.2.2.length ≤ 100000) (hwf : WfRs l) :
  Calls Tryz.prog 135 #[v, .int .i64 n] w (PartsR w (partsRes n l)) := by
 have H1 := hidM (fun W => isNumber_any n W)
 have H2 := hidM (mayStand_any v l w h hl)
 obtain ⟨va, vc, rfl, hsh⟩ := h
 cases hm : mayP n with
 | false =>
  rw [hm] at H1
  unfold partsRes
  rw [hm, Bool.false_and]
  go_enter Tryz.func135, Tryz.ntmps135
  go_wp2_with (first | (go_at_call 164; refine (H1.out _).mono ?_; rintro e W1 ⟨rfl, hw1⟩; subst W1))
  go_ret2
  exact ⟨⟨_, rfl, OwnRs.nil _ _⟩, Below.refl _ _⟩
 | true =>
 rw [hm] at H1
 cases ho : ordB l with
 | false =>
  rw [ho] at H2
  unfold partsRes
  rw [hm, ho, Bool.and_false]
  go_enter Tryz.func135, Tryz.ntmps135
  go_wp2_with (first | (go_at_call 164; refine (H1.out _).mono ?_; rintro e W1 ⟨rfl, hw1⟩; subst W1) | (go_at_call 165; refine H2.out.mono ?_; rintro e W2 ⟨rfl, hb2⟩))
  go_ret2
  exact ⟨⟨_, rfl, OwnRs.nil _ _⟩, hb2⟩
 | true =>
 rw [ho] at H2
 have hkeys := ordB_keys ho
 have hm8 := mayP_of hm
 have e1 : partsRes n l = (prt n l, 0) := by unfold partsRes; rw [hm, ho]; rfl
 rw [e1]
 clear e1 ho
 obtain ⟨N, rfl⟩ : ∃ N : Nat, n = (N : Int) := ⟨n.toNat, by omega⟩
 have HS := hidM (fun W (hW : w.heap.size ≤ W.heap.size) => OwnP.start W w.heap.size N hW (by omega))
 go_enter Tryz.func135, Tryz.ntmps135
 go_wp2_with (first | (go_at_call 164; refine (H1.out _).mono ?_; rintro e W1 ⟨rfl, hw1⟩; subst W1) | (go_at_call 165; refine H2.out.mono ?_; rintro e W2 ⟨rfl, hb2⟩; obtain ⟨W3, hmk, hP0, hb3⟩ := HS.out W2 hb2.size))
 have hb03 := nxt hb2 hb3
 obtain ⟨g, hg⟩ : ∃ g, g = W2.heap.size := ⟨_, rfl⟩
 rw [← hg] at hP0 ⊢
 have hP0' : OwnP W3 w.heap.size g N (prt (N : Int) (l.take 0)) := by
  have e : prt (N : Int) (l.take 0) = List.replicate N [] := by rw [List.take_zero, prt_nil, Int.toNat_natCast]
  rw [e]
  exact hP0
 clear hP0 hmk hb2 hb3 hg HS H1 H2
 go_loopw [23] (fun i wr => ∃ k : Nat, k ≤ l.length ∧ i = .int .i64 k ∧ OwnP wr w.heap.size g N (prt (N : Int) (l.take k)) ∧ Below w.heap.size w wr) (fun i _ => l.length - (intOf i).toNat)
 case atStart => exact ⟨0, by omega, rfl, hP0', hb03⟩
 case round =>
  clear hP0' hb03
  rename World => w0
  obtain ⟨k, hk, rfl, hP, hbel⟩ := hrel
  have hsz := hbel.size
  by_cases hlt : k < l.length
  ·obtain ⟨⟨⟨ya, yb⟩, yn, yl⟩, hy⟩ := getSome hlt
   rcases hsh with rfl | ⟨b, off, rfl, hb, hat⟩
   ·simp at hlt
   obtain ⟨c0, c1, c2, s1, p1, c3, n1⟩ := (hat.below hbel hb) k _ hy
   simp only at c0 c1 c2 c3 n1
   have hst : ∀ (W : World) (o : Obj), Below W.heap.size W (W.alloc o) := fun W o => (Below.refl _ _).alloc (Nat.le_refl _) _
   have hkey := hkeys _ (List.mem_of_getElem? hy)
   have hnum := (hwf _ (List.mem_of_getElem? hy)).k.1
   have hset := hls _ (List.mem_of_getElem? hy)
   simp only at hkey hnum hset
   obtain ⟨p, hp⟩ : ∃ p, p = ofP (N : Int) (ya, yb) := ⟨_, rfl⟩
   have hpN : p < N := by have := ofP_lt hm (ya, yb); rw [← hp, Int.toNat_natCast] at this; exact this
   have hpi0 : (0 : Int) ≤ (p : Int) := by omega
   have hpi1 : (p : Int) < (N : Int) := by omega
   obtain ⟨hat1, hset1⟩ := prt_put (n := (N : Int)) (r := ((ya, yb), (yn, yl))) hy hp.symm (by rw [Int.toNat_natCast]; exact hpN)
   obtain ⟨ua, um, uc, hu0, -⟩ := hP.at hpN
   have hgl := hP.lt
   have hlen1 : (partR (ofP (N : Int)) (l.take k) p).length ≤ 100000 := by have := partR_len (ofP (N : Int)) (l.take k) p; rw [List.length_take] at this; omega
   have HC := hidM (fun W (hW : Below w0.heap.size w0 W) => copied_any (ya, yb) yn yl s1 p1 W (n1.below hW) hset)
   have HU := hidM (show ∀ W, Below w0.heap.size w0 W → W.cell? ⟨g, p, none⟩ = some (.slice ua um uc) from fun W hW => (hW.cell (p := ⟨g, p, none⟩) hgl.2).trans hu0)
   have HT := hidM (show ∀ (W2 : World) (s2 : Sl), Below w0.heap.size w0 W2 → OwnL W2 w0.heap.size (slV s2) yl →
     (W2.alloc (.cells #[.int .i64 ya, .string yb, .int .i64 yn, slV s2] 129)).cell? ⟨g, p, none⟩ = some (.slice ua um uc) ∧ ∃ v4 W4, (Builtin.append_ #[61, 61] 61 #[.slice ua um uc, .slice (some ⟨W2.heap.size, 0, none⟩) 1 1]).run Tryz.prog (W2.alloc (.cells #[.int .i64 ya, .string yb, .int .i64 yn, slV s2] 129)) = .ok v4 W4 ∧ W4.frozen? ⟨g, p, none⟩ = false ∧ (∃ u', W4.cell? ⟨g, p, none⟩ = some u') ∧ (∃ a m c, v4 = .slice a m c) ∧ OwnP (W4.setCell ⟨g, p, none⟩ v4) w.heap.size g N (prt (N : Int) (l.take (k + 1))) ∧ Below w.heap.size w (W4.setCell ⟨g, p, none⟩ v4) from fun W2 s2 hb2 ho2 => by
    have G3 := nxt hb2 (hst W2 (.cells #[.int .i64 ya, .string yb, .int .i64 yn, slV s2] 129))
    have O3 := ho2.below (hst W2 (.cells #[.int .i64 ya, .string yb, .int .i64 yn, slV s2] 129))
    have hu3 := HU.out _ G3
    obtain ⟨v4, W4, q1, q2, q3, q4, q5, q6⟩ := (hP.below G3).put (p := p) 61 hat1 hu3 (XS.new W2 ((ya, yb), yn, s2)) (⟨rfl, rfl, O3.lower hsz⟩ : IsW _ w.heap.size ((ya, yb), yn, s2) ((ya, yb), (yn, yl))) hlen1 (by have := G3.size; omega)
    refine ⟨hu3, v4, W4, q1, q2, q4, q3, ?_, (hbel.trans (G3.mono hsz)).trans q6⟩
    rw [← hset1]
    exact q5)
   obtain ⟨Wa, hWa⟩ : ∃ Wa : World, Wa = w0.alloc (.cells #[.int .i64 ya, .string yb, .int .i64 yn, .slice s1 yl.length p1] 129) := ⟨_, rfl⟩
   have hba : Below w0.heap.size w0 Wa := by rw [hWa]; exact hst _ _
   have B4 : Blk4 Wa w0.heap.size (.int .i64 ya) (.string yb) (.int .i64 yn) (.slice s1 yl.length p1) := by rw [hWa]; exact Blk4.new w0 _ _ _ _
   obtain ⟨a0, a1, a2, a3, -⟩ := B4.cells
   have HA := hidM hWa.symm
   have HF := hidM (of_any (N : Int) (ya, yb) Wa hnum.1 hnum.2)
   rw [ofRes_ok hkey hm, ← hp] at HF
   have HB4 := hidM B4
   clear hWa hbel hat n1 B4 hy hP hat1 hset1 hp hu0 hgl hlen1 hst hkey hnum hset hkeys hwf hls
   go_wp2_with (first
    | (go_at_call 166; rw [HA.out]; refine HF.out.mono ?_; rintro e W1 ⟨rfl, hb1⟩; obtain ⟨d0, d1, d2, d3, -⟩ := (HB4.out.below hb1).cells; have hu1 := HU.out W1 (nxt hba hb1)))
   refine wp_region_any (by kernel_rfl) ?_
   change wpAny _ _ _ _ _ _ _ (World.drew _)
   refine wpAny_take (i := 0) (oi := { dst := some 34, op := Go.Op.move (Go.Operand.tmp 6), type := 118, pos := "part.go:51", after := #[], guard := none }) (v := ?v0y1) rfl (by kernel_rfl) (by kernel_rfl) (by kernel_rfl) (fun _ _ _ h => h) (Or.inl ⟨by rfl, ?h0y1⟩) ?r0y1
   case h0y1 => (intro W; go_simp; try with_reducible rfl)
   simp only [Act.put, List.setIfInBounds_toArray, List.set_cons_zero, List.set_cons_succ]
   refine wpAny_take (i := 1) (oi := { dst := some 35, op := Go.Op.move (Go.Operand.tmp 9), type := 3, pos := "part.go:51", after := #[], guard := none }) (v := ?v1y2) rfl (by kernel_rfl) (by kernel_rfl) (by kernel_rfl) (fun _ _ _ h => h) (Or.inl ⟨by rfl, ?h1y2⟩) ?r1y2
   case h1y2 => (intro W; go_simp; try with_reducible rfl)
   simp only [Act.put, List.setIfInBounds_toArray, List.set_cons_zero, List.set_cons_succ]
   refine wpAny_take (i := 2) (oi := { dst := some 36, op := Go.Op.move (Go.Operand.tmp 6), type := 118, pos := "part.go:51", after := #[], guard := none }) (v := ?v2y3) rfl (by kernel_rfl) (by kernel_rfl) (by kernel_rfl) (fun _ _ _ h => h) (Or.inl ⟨by rfl, ?h2y3⟩) ?r2y3
   case h2y3 => (intro W; go_simp; try with_reducible rfl)
   simp only [Act.put, List.setIfInBounds_toArray, List.set_cons_zero, List.set_cons_succ]
   refine wpAny_take (i := 3) (oi := { dst := some 37, op := Go.Op.move (Go.Operand.tmp 9), type := 3, pos := "part.go:51", after := #[], guard := none }) (v := ?v3y4) rfl (by kernel_rfl) (by kernel_rfl) (by kernel_rfl) (fun _ _ _ h => h) (Or.inl ⟨by rfl, ?h3y4⟩) ?r3y4
   case h3y4 => (intro W; go_simp; try with_reducible rfl)
   simp only [Act.put, List.setIfInBounds_toArray, List.set_cons_zero, List.set_cons_succ]
   refine wpAny_take (i := 4) (oi := { dst := some 38, op := Go.Op.indexAddr 118 (Go.Operand.tmp 36) (Go.Operand.tmp 37), type := 0, pos := "part.go:51", after := #[{ on := 2, ground := Go.Ground.data }, { on := 3, ground := Go.Ground.data }], guard := none }) (v := ?v4y5) rfl (by kernel_rfl) (by kernel_rfl) (by kernel_rfl) (fun _ _ _ h => h) (Or.inl ⟨by rfl, ?h4y5⟩) ?r4y5
   case h4y5 => (intro W; go_simp; try with_reducible rfl)
   simp only [Act.put, List.setIfInBounds_toArray, List.set_cons_zero, List.set_cons_succ]
   refine wpAny_ready (rs := [5, 6]) (by kernel_rfl) (by simp) ?_
   refine AllReady.cons (o := { dst := some 39, op := Go.Op.load 61 (Go.Operand.tmp 38), type := 61, pos := "part.go:51", after := #[{ on := 4, ground := Go.Ground.data }], guard := none }) rfl (fun K hK => ?_) (AllReady.cons (o := { dst := some 40, op := Go.Op.load 129 (Go.Operand.tmp 8), type := 129, pos := "part.go:51", after := #[], guard := none }) rfl (fun K hK => ?_) AllReady.nil)
   ·go_simp
    refine hK _ _ ?_
    clear hK K
    try simp only [Act.put, List.setIfInBounds_toArray, List.set_cons_zero, List.set_cons_succ]
    refine wpAny_ready (rs := [6]) (by kernel_rfl) (by simp) ?_
    refine AllReady.cons (o := { dst := some 40, op := Go.Op.load 129 (Go.Operand.tmp 8), type := 129, pos := "part.go:51", after := #[], guard := none }) rfl (fun K hK => ?_) AllReady.nil
    go_simp
    refine hK _ _ ?_
    clear hK K
    try simp only [Act.put, List.setIfInBounds_toArray, List.set_cons_zero, List.set_cons_succ]
    refine wpAny_ready (rs := [7]) (by kernel_rfl) (by simp) ?_
    refine AllReady.cons (o := { dst := some 41, op := Go.Op.call { callee := Go.Callee.value (Go.Operand.func 167), args := #[Go.Operand.tmp 40], argTypes := #[129] }, type := 129, pos := "part.go:51", after := #[{ on := 6, ground := Go.Ground.data }], guard := none }) rfl (fun K hK => ?_) AllReady.nil
    go_simp
    refine (HC.out _ (nxt (hba) hb1.drew)).mono ?_
    rintro e W2 ⟨⟨⟨s2a, s2b, s2c⟩, rfl, ho2⟩, hb2⟩
    have hb02 := nxt (nxt (hba) hb1.drew) hb2
    obtain ⟨hu3, v4, W4, hap, hfz, ⟨u5, hu5⟩, ⟨va4, vm4, vc4, rfl⟩, hP4, hb4⟩ := HT.out W2 (s2a, s2b, s2c) hb02 (ho2.lower (nxt (hba) hb1.drew).size)
    have hu2 := HU.out W2 hb02
    have HP4 := hidM hP4
    have HB4 := hidM hb4
    have HAP := hidM hap
    clear hP4 hb4 hap ho2 hb2
    refine hK _ _ ?_
    clear hK K
    try simp only [Act.put, List.setIfInBounds_toArray, List.set_cons_zero, List.set_cons_succ]
    refine wpAny_ready (rs := [8]) (by kernel_rfl) (by simp) ?_
    refine AllReady.cons (o := { dst := some 42, op := Go.Op.buildSlice 61 1 #[(0, Go.Operand.tmp 41)], type := 61, pos := "part.go:51", after := #[{ on := 7, ground := Go.Ground.data }], guard := none }) rfl (fun K hK => ?_) AllReady.nil
    go_simp
    refine hK _ _ ?_
    clear hK K
    try simp only [Act.put, List.setIfInBounds_toArray, List.set_cons_zero, List.set_cons_succ]
    refine wpAny_ready (rs := [9]) (by kernel_rfl) (by simp) ?_
    refine AllReady.cons (o := { dst := some 43, op := Go.Op.call { callee := Go.Callee.builtin Go.Builtin.append, args := #[Go.Operand.tmp 39, Go.Operand.tmp 42], argTypes := #[61, 61] }, type := 61, pos := "part.go:51", after := #[{ on := 5, ground := Go.Ground.data }, { on := 8, ground := Go.Ground.data }, { on := 7, ground := Go.Ground.chain }], guard := none }) rfl (fun K hK => ?_) AllReady.nil
    refine step_append_run _ rfl _ _ _ rfl (.slice ua um uc) _ _ W4 rfl rfl HAP.out ?_
    refine hK _ _ ?_
    clear hK K
    try simp only [Act.put, List.setIfInBounds_toArray, List.set_cons_zero, List.set_cons_succ]
    refine wpAny_take (i := 10) (oi := { dst := some 44, op := Go.Op.indexAddr 118 (Go.Operand.tmp 34) (Go.Operand.tmp 35), type := 0, pos := "part.go:51", after := #[{ on := 0, ground := Go.Ground.data }, { on := 1, ground := Go.Ground.data }, { on := 0, ground := Go.Ground.phase }, { on := 1, ground := Go.Ground.phase }, { on := 2, ground := Go.Ground.phase }, { on := 3, ground := Go.Ground.phase }, { on := 4, ground := Go.Ground.phase }, { on := 5, ground := Go.Ground.phase }, { on := 6, ground := Go.Ground.phase }, { on := 7, ground := Go.Ground.phase }, { on := 8, ground := Go.Ground.phase }, { on := 9, ground := Go.Ground.phase }], guard := none }) (v := ?v10y6) rfl (by kernel_rfl) (by kernel_rfl) (by kernel_rfl) (fun _ _ _ h => h) (Or.inl ⟨by rfl, ?h10y6⟩) ?r10y6
    case h10y6 => (intro W; go_simp; try with_reducible rfl)
    simp only [Act.put, List.setIfInBounds_toArray, List.set_cons_zero, List.set_cons_succ]
    refine wpAny_ready (rs := [11]) (by kernel_rfl) (by simp) ?_
    refine AllReady.cons (o := { dst := none, op := Go.Op.store 61 (Go.Operand.tmp 44) (Go.Operand.tmp 43), type := 0, pos := "part.go:51", after := #[{ on := 10, ground := Go.Ground.data }, { on := 9, ground := Go.Ground.data }, { on := 9, ground := Go.Ground.chain }, { on := 0, ground := Go.Ground.phase }, { on := 1, ground := Go.Ground.phase }, { on := 2, ground := Go.Ground.phase }, { on := 3, ground := Go.Ground.phase }, { on := 4, ground := Go.Ground.phase }, { on := 5, ground := Go.Ground.phase }, { on := 6, ground := Go.Ground.phase }, { on := 7, ground := Go.Ground.phase }, { on := 8, ground := Go.Ground.phase }, { on := 9, ground := Go.Ground.phase }], guard := none }) rfl (fun K hK => ?_) AllReady.nil
    go_simp
    refine hK _ _ ?_
    clear hK K
    try simp only [Act.put, List.setIfInBounds_toArray, List.set_cons_zero, List.set_cons_succ]
    refine wpAny_done (by kernel_rfl) ?_ _
    go_wp2
    go_roundw
    case rel => exact ⟨k + 1, by omega, by go_num, HP4.out, HB4.out⟩
    case measure => simp [intOf]; omega
   ·go_simp
    refine hK _ _ ?_
    clear hK K
    try simp only [Act.put, List.setIfInBounds_toArray, List.set_cons_zero, List.set_cons_succ]
    refine wpAny_ready (rs := [5, 7]) (by kernel_rfl) (by simp) ?_
    refine AllReady.cons (o := { dst := some 39, op := Go.Op.load 61 (Go.Operand.tmp 38), type := 61, pos := "part.go:51", after := #[{ on := 4, ground := Go.Ground.data }], guard := none }) rfl (fun K hK => ?_) (AllReady.cons (o := { dst := some 41, op := Go.Op.call { callee := Go.Callee.value (Go.Operand.func 167), args := #[Go.Operand.tmp 40], argTypes := #[129] }, type := 129, pos := "part.go:51", after := #[{ on := 6, ground := Go.Ground.data }], guard := none }) rfl (fun K hK => ?_) AllReady.nil)
    ·go_simp
     refine hK _ _ ?_
     clear hK K
     try simp only [Act.put, List.setIfInBounds_toArray, List.set_cons_zero, List.set_cons_succ]
     refine wpAny_ready (rs := [7]) (by kernel_rfl) (by simp) ?_
     refine AllReady.cons (o := { dst := some 41, op := Go.Op.call { callee := Go.Callee.value (Go.Operand.func 167), args := #[Go.Operand.tmp 40], argTypes := #[129] }, type := 129, pos := "part.go:51", after := #[{ on := 6, ground := Go.Ground.data }], guard := none }) rfl (fun K hK => ?_) AllReady.nil
     go_simp
     refine (HC.out _ (nxt (hba) hb1.drew)).mono ?_
     rintro e W2 ⟨⟨⟨s2a, s2b, s2c⟩, rfl, ho2⟩, hb2⟩
     have hb02 := nxt (nxt (hba) hb1.drew) hb2
     obtain ⟨hu3, v4, W4, hap, hfz, ⟨u5, hu5⟩, ⟨va4, vm4, vc4, rfl⟩, hP4, hb4⟩ := HT.out W2 (s2a, s2b, s2c) hb02 (ho2.lower (nxt (hba) hb1.drew).size)
     have hu2 := HU.out W2 hb02
     have HP4 := hidM hP4
     have HB4 := hidM hb4
     have HAP := hidM hap
     clear hP4 hb4 hap ho2 hb2
     refine hK _ _ ?_
     clear hK K
     try simp only [Act.put, List.setIfInBounds_toArray, List.set_cons_zero, List.set_cons_succ]
     refine wpAny_ready (rs := [8]) (by kernel_rfl) (by simp) ?_
     refine AllReady.cons (o := { dst := some 42, op := Go.Op.buildSlice 61 1 #[(0, Go.Operand.tmp 41)], type := 61, pos := "part.go:51", after := #[{ on := 7, ground := Go.Ground.data }], guard := none }) rfl (fun K hK => ?_) AllReady.nil
     go_simp
     refine hK _ _ ?_
     clear hK K
     try simp only [Act.put, List.setIfInBounds_toArray, List.set_cons_zero, List.set_cons_succ]
     refine wpAny_ready (rs := [9]) (by kernel_rfl) (by simp) ?_
     refine AllReady.cons (o := { dst := some 43, op := Go.Op.call { callee := Go.Callee.builtin Go.Builtin.append, args := #[Go.Operand.tmp 39, Go.Operand.tmp 42], argTypes := #[61, 61] }, type := 61, pos := "part.go:51", after := #[{ on := 5, ground := Go.Ground.data }, { on := 8, ground := Go.Ground.data }, { on := 7, ground := Go.Ground.chain }], guard := none }) rfl (fun K hK => ?_) AllReady.nil
     refine step_append_run _ rfl _ _ _ rfl (.slice ua um uc) _ _ W4 rfl rfl HAP.out ?_
     refine hK _ _ ?_
     clear hK K
     try simp only [Act.put, List.setIfInBounds_toArray, List.set_cons_zero, List.set_cons_succ]
     refine wpAny_take (i := 10) (oi := { dst := some 44, op := Go.Op.indexAddr 118 (Go.Operand.tmp 34) (Go.Operand.tmp 35), type := 0, pos := "part.go:51", after := #[{ on := 0, ground := Go.Ground.data }, { on := 1, ground := Go.Ground.data }, { on := 0, ground := Go.Ground.phase }, { on := 1, ground := Go.Ground.phase }, { on := 2, ground := Go.Ground.phase }, { on := 3, ground := Go.Ground.phase }, { on := 4, ground := Go.Ground.phase }, { on := 5, ground := Go.Ground.phase }, { on := 6, ground := Go.Ground.phase }, { on := 7, ground := Go.Ground.phase }, { on := 8, ground := Go.Ground.phase }, { on := 9, ground := Go.Ground.phase }], guard := none }) (v := ?v10y7) rfl (by kernel_rfl) (by kernel_rfl) (by kernel_rfl) (fun _ _ _ h => h) (Or.inl ⟨by rfl, ?h10y7⟩) ?r10y7
     case h10y7 => (intro W; go_simp; try with_reducible rfl)
     simp only [Act.put, List.setIfInBounds_toArray, List.set_cons_zero, List.set_cons_succ]
     refine wpAny_ready (rs := [11]) (by kernel_rfl) (by simp) ?_
     refine AllReady.cons (o := { dst := none, op := Go.Op.store 61 (Go.Operand.tmp 44) (Go.Operand.tmp 43), type := 0, pos := "part.go:51", after := #[{ on := 10, ground := Go.Ground.data }, { on := 9, ground := Go.Ground.data }, { on := 9, ground := Go.Ground.chain }, { on := 0, ground := Go.Ground.phase }, { on := 1, ground := Go.Ground.phase }, { on := 2, ground := Go.Ground.phase }, { on := 3, ground := Go.Ground.phase }, { on := 4, ground := Go.Ground.phase }, { on := 5, ground := Go.Ground.phase }, { on := 6, ground := Go.Ground.phase }, { on := 7, ground := Go.Ground.phase }, { on := 8, ground := Go.Ground.phase }, { on := 9, ground := Go.Ground.phase }], guard := none }) rfl (fun K hK => ?_) AllReady.nil
     go_simp
     refine hK _ _ ?_
     clear hK K
     try simp only [Act.put, List.setIfInBounds_toArray, List.set_cons_zero, List.set_cons_succ]
     refine wpAny_done (by kernel_rfl) ?_ _
     go_wp2
     go_roundw
     case rel => exact ⟨k + 1, by omega, by go_num, HP4.out, HB4.out⟩
     case measure => simp [intOf]; omega
    ·go_simp
     refine (HC.out _ (nxt (hba) hb1.drew)).mono ?_
     rintro e W2 ⟨⟨⟨s2a, s2b, s2c⟩, rfl, ho2⟩, hb2⟩
     have hb02 := nxt (nxt (hba) hb1.drew) hb2
     obtain ⟨hu3, v4, W4, hap, hfz, ⟨u5, hu5⟩, ⟨va4, vm4, vc4, rfl⟩, hP4, hb4⟩ := HT.out W2 (s2a, s2b, s2c) hb02 (ho2.lower (nxt (hba) hb1.drew).size)
     have hu2 := HU.out W2 hb02
     have HP4 := hidM hP4
     have HB4 := hidM hb4
     have HAP := hidM hap
     clear hP4 hb4 hap ho2 hb2
     refine hK _ _ ?_
     clear hK K
     try simp only [Act.put, List.setIfInBounds_toArray, List.set_cons_zero, List.set_cons_succ]
     refine wpAny_ready (rs := [5, 8]) (by kernel_rfl) (by simp) ?_
     refine AllReady.cons (o := { dst := some 39, op := Go.Op.load 61 (Go.Operand.tmp 38), type := 61, pos := "part.go:51", after := #[{ on := 4, ground := Go.Ground.data }], guard := none }) rfl (fun K hK => ?_) (AllReady.cons (o := { dst := some 42, op := Go.Op.buildSlice 61 1 #[(0, Go.Operand.tmp 41)], type := 61, pos := "part.go:51", after := #[{ on := 7, ground := Go.Ground.data }], guard := none }) rfl (fun K hK => ?_) AllReady.nil)
     ·go_simp
      refine hK _ _ ?_
      clear hK K
      try simp only [Act.put, List.setIfInBounds_toArray, List.set_cons_zero, List.set_cons_succ]
      refine wpAny_ready (rs := [8]) (by kernel_rfl) (by simp) ?_
      refine AllReady.cons (o := { dst := some 42, op := Go.Op.buildSlice 61 1 #[(0, Go.Operand.tmp 41)], type := 61, pos := "part.go:51", after := #[{ on := 7, ground := Go.Ground.data }], guard := none }) rfl (fun K hK => ?_) AllReady.nil
      go_simp
      refine hK _ _ ?_
      clear hK K
      try simp only [Act.put, List.setIfInBounds_toArray, List.set_cons_zero, List.set_cons_succ]
      refine wpAny_ready (rs := [9]) (by kernel_rfl) (by simp) ?_
      refine AllReady.cons (o := { dst := some 43, op := Go.Op.call { callee := Go.Callee.builtin Go.Builtin.append, args := #[Go.Operand.tmp 39, Go.Operand.tmp 42], argTypes := #[61, 61] }, type := 61, pos := "part.go:51", after := #[{ on := 5, ground := Go.Ground.data }, { on := 8, ground := Go.Ground.data }, { on := 7, ground := Go.Ground.chain }], guard := none }) rfl (fun K hK => ?_) AllReady.nil
      refine step_append_run _ rfl _ _ _ rfl (.slice ua um uc) _ _ W4 rfl rfl HAP.out ?_
      refine hK _ _ ?_
      clear hK K
      try simp only [Act.put, List.setIfInBounds_toArray, List.set_cons_zero, List.set_cons_succ]
      refine wpAny_take (i := 10) (oi := { dst := some 44, op := Go.Op.indexAddr 118 (Go.Operand.tmp 34) (Go.Operand.tmp 35), type := 0, pos := "part.go:51", after := #[{ on := 0, ground := Go.Ground.data }, { on := 1, ground := Go.Ground.data }, { on := 0, ground := Go.Ground.phase }, { on := 1, ground := Go.Ground.phase }, { on := 2, ground := Go.Ground.phase }, { on := 3, ground := Go.Ground.phase }, { on := 4, ground := Go.Ground.phase }, { on := 5, ground := Go.Ground.phase }, { on := 6, ground := Go.Ground.phase }, { on := 7, ground := Go.Ground.phase }, { on := 8, ground := Go.Ground.phase }, { on := 9, ground := Go.Ground.phase }], guard := none }) (v := ?v10y8) rfl (by kernel_rfl) (by kernel_rfl) (by kernel_rfl) (fun _ _ _ h => h) (Or.inl ⟨by rfl, ?h10y8⟩) ?r10y8
      case h10y8 => (intro W; go_simp; try with_reducible rfl)
      simp only [Act.put, List.setIfInBounds_toArray, List.set_cons_zero, List.set_cons_succ]
      refine wpAny_ready (rs := [11]) (by kernel_rfl) (by simp) ?_
      refine AllReady.cons (o := { dst := none, op := Go.Op.store 61 (Go.Operand.tmp 44) (Go.Operand.tmp 43), type := 0, pos := "part.go:51", after := #[{ on := 10, ground := Go.Ground.data }, { on := 9, ground := Go.Ground.data }, { on := 9, ground := Go.Ground.chain }, { on := 0, ground := Go.Ground.phase }, { on := 1, ground := Go.Ground.phase }, { on := 2, ground := Go.Ground.phase }, { on := 3, ground := Go.Ground.phase }, { on := 4, ground := Go.Ground.phase }, { on := 5, ground := Go.Ground.phase }, { on := 6, ground := Go.Ground.phase }, { on := 7, ground := Go.Ground.phase }, { on := 8, ground := Go.Ground.phase }, { on := 9, ground := Go.Ground.phase }], guard := none }) rfl (fun K hK => ?_) AllReady.nil
      go_simp
      refine hK _ _ ?_
      clear hK K
      try simp only [Act.put, List.setIfInBounds_toArray, List.set_cons_zero, List.set_cons_succ]
      refine wpAny_done (by kernel_rfl) ?_ _
      go_wp2
      go_roundw
      case rel => exact ⟨k + 1, by omega, by go_num, HP4.out, HB4.out⟩
      case measure => simp [intOf]; omega
     ·go_simp
      refine hK _ _ ?_
      clear hK K
      try simp only [Act.put, List.setIfInBounds_toArray, List.set_cons_zero, List.set_cons_succ]
      refine wpAny_ready (rs := [5]) (by kernel_rfl) (by simp) ?_
      refine AllReady.cons (o := { dst := some 39, op := Go.Op.load 61 (Go.Operand.tmp 38), type := 61, pos := "part.go:51", after := #[{ on := 4, ground := Go.Ground.data }], guard := none }) rfl (fun K hK => ?_) AllReady.nil
      go_simp
      refine hK _ _ ?_
      clear hK K
      try simp only [Act.put, List.setIfInBounds_toArray, List.set_cons_zero, List.set_cons_succ]
      refine wpAny_ready (rs := [9]) (by kernel_rfl) (by simp) ?_
      refine AllReady.cons (o := { dst := some 43, op := Go.Op.call { callee := Go.Callee.builtin Go.Builtin.append, args := #[Go.Operand.tmp 39, Go.Operand.tmp 42], argTypes := #[61, 61] }, type := 61, pos := "part.go:51", after := #[{ on := 5, ground := Go.Ground.data }, { on := 8, ground := Go.Ground.data }, { on := 7, ground := Go.Ground.chain }], guard := none }) rfl (fun K hK => ?_) AllReady.nil
      refine step_append_run _ rfl _ _ _ rfl (.slice ua um uc) _ _ W4 rfl rfl HAP.out ?_
      refine hK _ _ ?_
      clear hK K
      try simp only [Act.put, List.setIfInBounds_toArray, List.set_cons_zero, List.set_cons_succ]
      refine wpAny_take (i := 10) (oi := { dst := some 44, op := Go.Op.indexAddr 118 (Go.Operand.tmp 34) (Go.Operand.tmp 35), type := 0, pos := "part.go:51", after := #[{ on := 0, ground := Go.Ground.data }, { on := 1, ground := Go.Ground.data }, { on := 0, ground := Go.Ground.phase }, { on := 1, ground := Go.Ground.phase }, { on := 2, ground := Go.Ground.phase }, { on := 3, ground := Go.Ground.phase }, { on := 4, ground := Go.Ground.phase }, { on := 5, ground := Go.Ground.phase }, { on := 6, ground := Go.Ground.phase }, { on := 7, ground := Go.Ground.phase }, { on := 8, ground := Go.Ground.phase }, { on := 9, ground := Go.Ground.phase }], guard := none }) (v := ?v10y9) rfl (by kernel_rfl) (by kernel_rfl) (by kernel_rfl) (fun _ _ _ h => h) (Or.inl ⟨by rfl, ?h10y9⟩) ?r10y9
      case h10y9 => (intro W; go_simp; try with_reducible rfl)
      simp only [Act.put, List.setIfInBounds_toArray, List.set_cons_zero, List.set_cons_succ]
      refine wpAny_ready (rs := [11]) (by kernel_rfl) (by simp) ?_
      refine AllReady.cons (o := { dst := none, op := Go.Op.store 61 (Go.Operand.tmp 44) (Go.Operand.tmp 43), type := 0, pos := "part.go:51", after := #[{ on := 10, ground := Go.Ground.data }, { on := 9, ground := Go.Ground.data }, { on := 9, ground := Go.Ground.chain }, { on := 0, ground := Go.Ground.phase }, { on := 1, ground := Go.Ground.phase }, { on := 2, ground := Go.Ground.phase }, { on := 3, ground := Go.Ground.phase }, { on := 4, ground := Go.Ground.phase }, { on := 5, ground := Go.Ground.phase }, { on := 6, ground := Go.Ground.phase }, { on := 7, ground := Go.Ground.phase }, { on := 8, ground := Go.Ground.phase }, { on := 9, ground := Go.Ground.phase }], guard := none }) rfl (fun K hK => ?_) AllReady.nil
      go_simp
      refine hK _ _ ?_
      clear hK K
      try simp only [Act.put, List.setIfInBounds_toArray, List.set_cons_zero, List.set_cons_succ]
      refine wpAny_done (by kernel_rfl) ?_ _
      go_wp2
      go_roundw
      case rel => exact ⟨k + 1, by omega, by go_num, HP4.out, HB4.out⟩
      case measure => simp [intOf]; omega
  ·have hlt' : l.length ≤ k := by omega
   rw [List.take_of_length_le hlt'] at hP
   go_wp2
   go_ret2
   exact ⟨⟨_, rfl, hP.runs⟩, hbel⟩
end Go.Proofs.YtclcgakfmcofaaaGreatDoor
namespace Go.Proofs.YtclcgakfmcofaaaGreatDoor
open Go.RowKit Go.Shelf
set_option linter.unusedVariables false
set_option maxRecDepth 100000
shelf_lay Lays.n170 Nm 170 at Tryz as Tryz.lays170
theorem blen_any (B b : Nat) (s : ByteArray) (w : World) (h : Bld B b s w) :
  Calls Tryz.prog 138 #[.pointer (some ⟨b, 0, none⟩)] w fun e w' => e = .returned (.int .i64 s.size) ∧ w' = w := by
 refine (Any.Builder_Len Tryz.lays170 B b (Lib.strCells s) w h).mono ?_
 rintro e w' ⟨rfl, rfl⟩
 exact ⟨by rw [Lib.strCells_length], rfl⟩
end Go.Proofs.YtclcgakfmcofaaaGreatDoor
namespace Go.Proofs.YtclcgakfmcofaaaGreatDoor
open Go.RowKit
set_option linter.unusedVariables false
set_option maxRecDepth 100000
theorem RnS.shapeP {w : World} {v : Value} {L : List (List Rw)} (h : RnS w v L) (hl : 0 < L.length) : ∃ b off cap, v = .slice (some ⟨b, off, none⟩) L.length cap ∧ b < w.heap.size ∧ RunsC w b off L := by
 obtain ⟨a, cap, rfl, h⟩ := h
 rcases h with rfl | ⟨b, off, rfl, hb, hc⟩
 ·simp at hl
 ·exact ⟨b, off, cap, rfl, hb, hc⟩
set_option maxHeartbeats 1000000 in
theorem output_any (agg bound n : Int) (v : Value) (l : List Rw) (w : World) (h : WS w v l) (hcap : CapOk v) (hf : FineR agg bound l) (hwf : WfRs l) (hm : mayP n = true) (hh : Halves w) :
  Calls Tryz.prog 88 #[.int .i64 agg, .int .i64 bound, .int .i64 n, v] w (ByR w (outRes agg n l)) := by
 have hlen := hf.len
 have hsets : ∀ r ∈ l, r.2.2.length ≤ 100000 := fun r hr => by have := (hf.cell r hr).2.2; omega
 have H1 := hidM (rcheck_ok agg bound v l w h hsets hcap hf.ok)
 have H2 := hidM (fun W (hW : Below w.heap.size w W) => parts_any n v l W (h.below hW) (by omega) hsets hwf)
 have hor : ordB l = true := by
  obtain ⟨q1, q2, q3, q4⟩ := okRows_parts hf.ok
  unfold ordB
  rw [decide_eq_true q4, decide_eq_true q2, List.all_eq_true.2 (fun r hr => decide_eq_true (q3 r hr).1)]
  rfl
 have e1 : partsRes n l = (prt n l, 0) := by unfold partsRes; rw [hm, hor]; rfl
 rw [e1] at H2
 have hm8 := mayP_of hm
 have hPl : 0 < (prt n l).length ∧ (prt n l).length ≤ 8 := by rw [show (prt n l).length = n.toNat from partsR_len _ _ _]; omega
 have HRB := hidM (fun (W : World) (u : Value) (m : List Rw) (hmm : m ∈ prt n l) (hu : WS W u m) (hc : CapOk u) => rbytes_ok agg bound u m W hu hc (hf.sub (prt_sub hmm)))
 have HSZ := hidM (fun (m : List Rw) (hmm : m ∈ prt n l) => prt_rows (agg := agg) (bound := bound) hmm hf)
 have HBAD := hidM (show ∀ m ∈ prt n l, ¬ (rowsBy agg m).size ≤ 32768 → outRes agg n l = (⟨#[]⟩, 2) from fun m hmm => outRes_part (agg := agg) (n := n) (l := l) hmm)
 have HLONG := hidM (show ¬ (outB agg (prt n l)).size ≤ 32704 → outRes agg n l = (⟨#[]⟩, 2) from outRes_long)
 have HOK := hidM (show (∀ m ∈ prt n l, (rowsBy agg m).size ≤ 32768) → (outB agg (prt n l)).size ≤ 32704 → outRes agg n l = (outB agg (prt n l), 0) from outRes_ok)
 have HP0 := hh.pos
 generalize prt n l = P at H2 HRB HSZ HBAD HLONG HOK hPl
 generalize outRes agg n l = R at HBAD HLONG HOK ⊢
 have HHW := hidM hh
 obtain ⟨hPl0, hPl8⟩ := hPl
 clear e1 hor hsets hwf hf hh hm8
 obtain ⟨va, vc, rfl, -⟩ := h
 go_enter Tryz.func88, Tryz.ntmps88
 go_wp2_with (first
  | (go_at_call 43; refine H1.out.mono ?_; rintro e W1 ⟨rfl, hb1⟩)
  | (go_at_call 135; refine (H2.out W1 hb1).mono ?_; rintro e W2 ⟨⟨vp, rfl, hrs⟩, hb2⟩; have hrn : RnS W2 vp P := hrs.rns; obtain ⟨g, off, pc, rfl, hgb, hrc⟩ := hrn.shapeP hPl0; clear hrn))
 have hbd := Bld.new W2
 have hb02 := nxt hb1 hb2
 have hb3 := (Below.refl W2.heap.size W2).alloc (Nat.le_refl _) (.cells #[.pointer none, .slice none 0 0] 70)
 have hH2 : Halves W2 := HHW.out.below hb02 HP0
 have hP2 := hH2.pos
 generalize hWB : W2.alloc (.cells #[.pointer none, .slice none 0 0] 70) = W3 at hbd hb3 ⊢
 have hB3 : W2.heap.size ≤ W3.heap.size := by rw [← hWB]; simp
 obtain ⟨B, hB⟩ : ∃ B, B = W2.heap.size := ⟨_, rfl⟩
 rw [← hB] at hbd hB3 ⊢
 have HRC := hidM hrc
 have hwB : w.heap.size ≤ B := by rw [hB]; exact hb02.size
 have HB2 := hidM hb02
 have HH2 := hidM hH2
 have HEB := hidM hB
 have hBle : B ≤ W2.heap.size := by omega
 clear hB hWB hrs hrc hb1 hb2 hb02 H1 H2 hH2
 go_loopw [38] (fun i wr => ∃ k : Nat, k ≤ P.length ∧ i = .int .i64 k ∧ Bld B B (outB agg (P.take k)) wr ∧ Below W2.heap.size W2 wr ∧ Hid (∀ m ∈ P.take k, (rowsBy agg m).size ≤ 32768)) (fun i _ => P.length - (intOf i).toNat)
 case atStart => exact ⟨0, by omega, rfl, hbd, hb3, fun m hm => by simp at hm⟩
 case round =>
  clear hbd hb3 hB3
  rename World => w0
  obtain ⟨k, hk, rfl, hbd, hbel, HSM⟩ := hrel
  have hsz := hbel.size
  by_cases hlt : k < P.length
  ·obtain ⟨m, hy⟩ := getSome hlt
   have hmm := List.mem_of_getElem? hy
   obtain ⟨u, hu0, hus, huc⟩ := HRC.out k m hy
   have hu := (hbel.cell (p := ⟨g, off + k, none⟩) hgb).trans hu0
   have HR1 := hidM (HRB.out w0 u m hmm (hus.below hbel) huc)
   have hs1 := HSZ.out m hmm
   have hstep : outB agg (P.take (k + 1)) = outB agg (P.take k) ++ frameOf (rowsBy agg m) := by
    rw [List.take_add_one, hy]
    exact outB_snoc _ _ _
   have hsOut := outB_size agg (P.take k) (fun x hx => HSZ.out x (List.mem_of_mem_take hx))
   have hkl : (P.take k).length ≤ 8 := by rw [List.length_take]; omega
   have hHw0 : Halves w0 := HH2.out.below hbel hP2
   have HBD := hidM hbd
   have HBEL := hidM hbel
   have HB1 := hidM (HBAD.out m hmm)
   have HSM2 := hidM (show (rowsBy agg m).size ≤ 32768 → ∀ x ∈ P.take (k + 1), (rowsBy agg x).size ≤ 32768 from fun hs x hx => by
    rw [List.take_add_one, hy] at hx
    rcases List.mem_append.1 hx with hx | hx
    ·exact HSM.out x hx
    ·simp at hx; subst hx; exact hs)
   have HST := hidM hstep
   obtain ⟨ua, uc, rfl, -⟩ := id hus
   generalize rowsBy agg m = s at HR1 hs1 HB1 HSM2 HST
   obtain ⟨Z, hZ⟩ : ∃ Z, Z = outB agg (P.take k) := ⟨_, rfl⟩
   obtain ⟨Z1, hZ1⟩ : ∃ Z1, Z1 = outB agg (P.take (k + 1)) := ⟨_, rfl⟩
   have HZ1 := hidM hZ1
   rw [← hZ] at HBD HST hsOut
   rw [← hZ1] at HST
   clear hstep hu0 hus huc hbd hbel HSM hZ hZ1
   by_cases hbig : s.size ≤ 32768
   ·have HF := hidM (fun W (hW : Below w0.heap.size w0 W) => fbytes_ok s W hbig (hHw0.below hW hHw0.pos))
    have hfs := frame_size s
    generalize frameOf s = f at HF HST hfs
    go_wp2_with (first
     | (go_at_call 136; refine HR1.out.mono ?_; rintro e W4 ⟨rfl, hb4⟩)
     | (go_at_call 137; refine (HF.out W4 hb4).mono ?_; rintro e W5 ⟨rfl, hb5⟩; have hb05 := nxt hb4 hb5; have HW := hidM (bwrite_any B B Z f W5 (HBD.out.below hb05) (by omega) (by have := hb05.size; omega))))
    refine HW.out.mono ?_
    rintro e W6 ⟨rfl, hbd6, hb6⟩
    have HF6 := hidM (show Bld B B Z1 W6 ∧ Below W2.heap.size W2 W6 from ⟨by rw [HST.out]; exact hbd6, (nxt HBEL.out hb05).trans (by rw [← HEB.out]; exact hb6)⟩)
    clear hbd6 hb6
    go_wp2
    go_roundw
    case rel => exact ⟨k + 1, by omega, by go_num, by rw [← HZ1.out]; exact HF6.out.1, HF6.out.2, HSM2.out hbig⟩
    case measure => simp [intOf]; omega
   ·have HF := hidM (fun W => fbytes_big s W (by omega))
    go_wp2_with (first
     | (go_at_call 136; refine HR1.out.mono ?_; rintro e W4 ⟨rfl, hb4⟩)
     | (go_at_call 137; refine (HF.out W4).mono ?_; rintro e W5 ⟨rfl, hw5⟩; subst W5))
    go_ret2
    exact ⟨by rw [HB1.out hbig]; rfl, nxt HB2.out (nxt HBEL.out hb4)⟩
  ·have hlt' : P.length ≤ k := by omega
   rw [List.take_of_length_le hlt'] at hbd HSM
   have HC := hidM (bstring_any B B _ w0 hbd (by omega))
   have HL := hidM (blen_any B B _ w0 hbd)
   have HBE := hidM (nxt HB2.out hbel)
   by_cases hlong : (outB agg P).size ≤ 32704
   ·have HE := HOK.out HSM.out hlong
    have HE := hidM HE
    generalize outB agg P = s at HC HL hlong HE
    clear hbd HSM HBAD HLONG HOK
    go_wp2_with (first
     | (go_at_call 138; refine HL.out.mono ?_; rintro e W3 ⟨rfl, hw3⟩; subst W3)
     | (go_at_call 35; refine HC.out.mono ?_; rintro e W3 ⟨rfl, hb3⟩))
    go_ret2
    exact ⟨by rw [HE.out]; rfl, HBE.out.trans (hb3.mono hwB)⟩
   ·have HE := HLONG.out hlong
    have HE := hidM HE
    generalize outB agg P = s at HC HL hlong HE
    clear hbd HSM HBAD HLONG HOK
    go_wp2_with (first
     | (go_at_call 138; refine HL.out.mono ?_; rintro e W3 ⟨rfl, hw3⟩; subst W3))
    go_ret2
    exact ⟨by rw [HE.out]; rfl, HBE.out⟩
end Go.Proofs.YtclcgakfmcofaaaGreatDoor
