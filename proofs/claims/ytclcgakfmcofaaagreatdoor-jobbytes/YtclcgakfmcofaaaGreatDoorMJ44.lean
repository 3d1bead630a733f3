/- Texts laid together: WWipe, PTRow, WROrd, PTMay, PTMayF. -/
import Derived.Test.YtclcgakfmcofaaaGreatDoorMJ40
import Derived.Test.YtclcgakfmcofaaaGreatDoorMJ16
import Derived.Laws.MakeOwn
import Derived.Laws.OwnMore
import Derived.Test.YtclcgakfmcofaaaGreatDoorMJ9
import Derived.Test.YtclcgakfmcofaaaGreatDoorMJ36
import Derived.Test.YtclcgakfmcofaaaGreatDoorMJ25
import Derived.Test.YtclcgakfmcofaaaGreatDoorMJ29
/- Rows of one's own, written over: thresherlaw0.Rows. -/
namespace Go.Proofs.YtclcgakfmcofaaaGreatDoor
open Go.RowKit
set_option linter.unusedVariables false

/-- A set's slice: empty, or a row of numbers of the call's own. -/
def SetOk (w : World) (base : Nat) (s : Sl) : Prop := s.2.1 = 0 ∨ ∃ (g : Nat) (cur : Array Value), s.1 = some ⟨g, 0, none⟩ ∧ base ≤ g ∧ w.heap[g]? = some (.cells cur 2 (0, 0)) ∧ s.2.1 ≤ cur.size
theorem SetOk.own {w : World} {base : Nat} {s : Sl} {l : List Int} (h : OwnL w base (slV s) l) : SetOk w base s := by
  obtain ⟨sa, sn, sc⟩ := s
  rcases h.2 with ⟨h1, h2⟩ | ⟨g, cap, cur, h1, hg, hb, hn, hm, hs, ht⟩
  · injection h1 with e1 e2 e3
    exact .inl e2
  · injection h1 with e1 e2 e3
    subst e1 e2
    exact .inr ⟨g, cur, rfl, hg, hb, by simp only; omega⟩
theorem SetOk.keep {w w' : World} {base : Nat} {s : Sl} (h : SetOk w base s) (k : KeepT 2 w w') : SetOk w' base s := by
  rcases h with h | ⟨g, cur, h1, h2, h3, h4⟩
  · exact .inl h
  · exact .inr ⟨g, cur, h1, h2, k g cur h3, h4⟩
theorem SetOk.set {w : World} {base g o : Nat} {cur : Array Value} {s : Sl} {u : Value} (h : SetOk w base s) (hb : w.heap[g]? = some (.cells cur 2 (0, 0))) : SetOk (w.setCell ⟨g, o, none⟩ u) base s := by
  rcases h with h | ⟨g', cur', h1, h2, h3, h4⟩
  · exact .inl h
  · by_cases e : g' = g
    · subst e
      rw [hb] at h3
      injection h3 with h3
      injection h3 with h3
      subst h3
      exact .inr ⟨g', cur.setIfInBounds o u, h1, h2, by simp [World.setCell, Array.getElem?_modify, hb], by simpa using h4⟩
    · refine .inr ⟨g', cur', h1, h2, ?_, h4⟩
      rw [Below.heap_setCell _ _ _ _ e]
      exact h3
theorem keepT_set {T T' : TypeId} (hT : T ≠ T') {w : World} {g o : Nat} {cur : Array Value} {u : Value} (hb : w.heap[g]? = some (.cells cur T' (0, 0))) : KeepT T w (w.setCell ⟨g, o, none⟩ u) := fun g' cur' h => by
  have e : g' ≠ g := fun e => by
    subst e
    rw [hb] at h
    injection h with h
    injection h with _ h
    exact hT h.symm
  rw [Below.heap_setCell _ _ _ _ e]
  exact h
theorem set_type {w : World} {g o : Nat} {cur : Array Value} {T : TypeId} {u : Value} (hb : w.heap[g]? = some (.cells cur T (0, 0))) : (w.setCell ⟨g, o, none⟩ u).heap[g]? = some (.cells (cur.setIfInBounds o u) T (0, 0)) := by
  simp [World.setCell, Array.getElem?_modify, hb]
/-- A row that holds nothing. -/
abbrev noRaw : Raw := ((0, ⟨#[]⟩), 0, (none, 0, 0))
theorem flatW_none (xs : List Raw) (p : Nat) (x : Raw) (hx : xs[p]? = some x) : flatW (xs.set p noRaw) = ((((flatW xs).set (p * 4) (.int .i64 0)).set (p * 4 + 1) (.string ⟨#[]⟩)).set (p * 4 + 2) (.int .i64 0)).set (p * 4 + 3) (.slice none 0 0) := by
  induction xs generalizing p with
  | nil => simp at hx
  | cons a l ih =>
    cases p with
    | zero => rfl
    | succ p =>
      have hx' : l[p]? = some x := by simpa using hx
      rw [List.set_cons_succ]
      show encW a ++ flatW (l.set p noRaw) = (((((encW a ++ flatW l).set ((p + 1) * 4) (.int .i64 0)).set ((p + 1) * 4 + 1) (.string ⟨#[]⟩)).set ((p + 1) * 4 + 2) (.int .i64 0)).set ((p + 1) * 4 + 3) (.slice none 0 0))
      rw [ih p hx']
      have e0 : (p + 1) * 4 = (encW a).length + (p * 4) := by simp [encW]; omega
      have e1 : (p + 1) * 4 + 1 = (encW a).length + (p * 4 + 1) := by simp [encW]; omega
      have e2 : (p + 1) * 4 + 2 = (encW a).length + (p * 4 + 2) := by simp [encW]; omega
      have e3 : (p + 1) * 4 + 3 = (encW a).length + (p * 4 + 3) := by simp [encW]; omega
      rw [e1, e2, e3, e0, List.set_append_right _ _ (by omega), List.set_append_right _ _ (by omega), List.set_append_right _ _ (by omega), List.set_append_right _ _ (by omega)]
      simp
/-- What lies there while it is written over. -/
structure Wip (w : World) (base : Nat) (g n cap : Nat) (xs : List Raw) : Prop where
  own : OwnX w base (.slice (some ⟨g, 0, none⟩) n cap) xs
  sets : ∀ x ∈ xs, SetOk w base x.2.2
theorem Wip.block {w : World} {base g n cap : Nat} {xs : List Raw} (h : Wip w base g n cap xs) : base ≤ g ∧ n = xs.length ∧ ∃ cur : Array Value, w.heap[g]? = some (.cells cur 129 (0, 0)) ∧ xs.length * 4 ≤ cur.size ∧ cur.toList.take (xs.length * 4) = flatW xs := by
  rcases h.own.2 with ⟨h1, _⟩ | ⟨g', cap', cur, h1, hg, hb, hn, hm, hs, ht⟩
  · cases h1
  · injection h1 with e1 e2 e3
    injection e1 with e1
    injection e1 with e1
    subst e1 e2 e3
    exact ⟨hg, rfl, cur, hb, by omega, ht⟩
theorem Wip.cells {w : World} {base g n cap p : Nat} {xs : List Raw} {x : Raw} (h : Wip w base g n cap xs) (hx : xs[p]? = some x) :
    w.cell? ⟨g, p * 4, none⟩ = some (.int .i64 x.1.1) ∧ w.cell? ⟨g, p * 4 + 1, none⟩ = some (.string x.1.2) ∧ w.cell? ⟨g, p * 4 + 2, none⟩ = some (.int .i64 x.2.1) ∧ w.cell? ⟨g, p * 4 + 3, none⟩ = some (slV x.2.2) ∧ ∀ q, w.frozen? ⟨g, q, none⟩ = false := by
  obtain ⟨-, -, cur, hb, -, -⟩ := h.block
  obtain ⟨q0, q1, q2, q3⟩ := flatW_get xs p x hx
  obtain ⟨-, -, -, hc⟩ := h.own.cell
  exact ⟨hc _ _ q0, hc _ _ q1, hc _ _ q2, hc _ _ q3, fun q => by simp [World.frozen?, hb]⟩
theorem Wip.row {w : World} {base g n cap p : Nat} {xs : List Raw} {x : Raw} (h : Wip w base g n cap xs) (hx : xs[p]? = some x) :
    Wip ((((w.setCell ⟨g, p * 4, none⟩ (.int .i64 0)).setCell ⟨g, p * 4 + 1, none⟩ (.string ⟨#[]⟩)).setCell ⟨g, p * 4 + 2, none⟩ (.int .i64 0)).setCell ⟨g, p * 4 + 3, none⟩ (.slice none 0 0)) base g n cap (xs.set p noRaw) := by
  obtain ⟨hg, hn, cur, hb, hs, ht⟩ := h.block
  have b1 := set_type (o := p * 4) (u := .int .i64 0) hb
  have b2 := set_type (o := p * 4 + 1) (u := .string ⟨#[]⟩) b1
  have b3 := set_type (o := p * 4 + 2) (u := .int .i64 0) b2
  have b4 := set_type (o := p * 4 + 3) (u := .slice none 0 0) b3
  refine ⟨?_, fun y hy => ?_⟩
  · rcases h.own.2 with ⟨h1, _⟩ | ⟨g', cap', cur', h1, hg', hb', hn', hm', hs', ht'⟩
    · cases h1
    · injection h1 with e1 e2 e3
      injection e1 with e1
      injection e1 with e1
      subst e1 e2 e3
      rw [hb] at hb'
      injection hb' with hb'
      injection hb' with hb'
      subst hb'
      refine ⟨by rw [flatW_len], .inr ⟨g, cap, _, by rw [List.length_set], hg, b4, by rw [List.length_set]; exact hn', hm', by simp [hs'], ?_⟩⟩
      rw [List.length_set, flatW_none xs p x hx, ← ht]
      simp only [Array.toList_setIfInBounds]
      rw [List.take_set, List.take_set, List.take_set, List.take_set]
  · rcases List.mem_or_eq_of_mem_set hy with hy | rfl
    · exact ((((h.sets y hy).keep (keepT_set (by decide) hb)).keep (keepT_set (by decide) b1)).keep (keepT_set (by decide) b2)).keep (keepT_set (by decide) b3)
    · exact .inl rfl
end Go.Proofs.YtclcgakfmcofaaaGreatDoor
namespace Go.Proofs.YtclcgakfmcofaaaGreatDoor
open Go.RowKit
set_option linter.unusedVariables false
set_option maxRecDepth 100000
end Go.Proofs.YtclcgakfmcofaaaGreatDoor
/- Runs of one's own, each in a block of its own. -/
namespace Go.Proofs.YtclcgakfmcofaaaGreatDoor
open Go.RowKit
set_option linter.unusedVariables false
set_option maxRecDepth 100000

theorem OwnX.other {w w' : World} {base : Nat} {v : Value} {xs : List Raw} (h : OwnX w base v xs) {o : Option Nat} (hg : w.grownBy w' o) (hne : ∀ k, v.ownBlock = some k → o ≠ some k) : OwnX w' base v xs := by
  refine ⟨h.1, ?_⟩
  rcases h.2 with ⟨h1, h2⟩ | ⟨g, cap, cur, h1, h2, h3, h4⟩
  · exact .inl ⟨h1, h2⟩
  · refine .inr ⟨g, cap, cur, h1, h2, ?_, h4⟩
    rw [hg.block g (Array.getElem?_eq_some_iff.1 h3).1 (fun e => hne g (by rw [h1]; rfl) e.symm)]
    exact h3
theorem OwnX.blk {w : World} {base : Nat} {v : Value} {xs : List Raw} (h : OwnX w base v xs) {k : Nat} (hk : v.ownBlock = some k) : k < w.heap.size := by
  rcases h.2 with ⟨h1, h2⟩ | ⟨g, cap, cur, h1, h2, h3, h4⟩
  · rw [h1] at hk; cases hk
  · rw [h1] at hk
    injection hk with hk
    have : g = k := hk
    subst this
    exact (Array.getElem?_eq_some_iff.1 h3).1
abbrev runsV (g n : Nat) : Value := .slice (some ⟨g, 0, none⟩) n n
/-- At g lie n runs, L: each of one's own, each in a block of its own. -/
def OwnP (w : World) (base g n : Nat) (L : List (List Rw)) : Prop :=
  ∃ vs : List Value, w.ownsRow base 61 1 (runsV g n) n vs ∧ n = L.length ∧ (∀ (i : Nat) (u : Value) (l : List Rw), vs[i]? = some u → L[i]? = some l → OwnW w base u l) ∧
    ∀ (i j : Nat) (u u' : Value) (k : Nat), i ≠ j → vs[i]? = some u → vs[j]? = some u' → u.ownBlock = some k → u'.ownBlock ≠ some k
theorem OwnP.runs {w : World} {base g n : Nat} {L : List (List Rw)} (h : OwnP w base g n L) : OwnRs w base (runsV g n) L := by
  obtain ⟨vs, h1, h2, h3, h4⟩ := h
  have hl : vs.length = n := by simpa using h1.1
  exact ⟨vs, by rw [hl]; exact h1, by omega, h3⟩
theorem OwnP.below {w w' : World} {base g n : Nat} {L : List (List Rw)} (h : OwnP w base g n L) (hb : Below w.heap.size w w') : OwnP w' base g n L := by
  obtain ⟨vs, h1, h2, h3, h4⟩ := h
  exact ⟨vs, ownsRow_below h1 hb, h2, fun i u l hu hl => (h3 i u l hu hl).below hb, h4⟩
theorem OwnP.lt {w : World} {base g n : Nat} {L : List (List Rw)} (h : OwnP w base g n L) : base ≤ g ∧ g < w.heap.size := by
  obtain ⟨vs, h1, -⟩ := h
  rcases h1.2 with ⟨e, _⟩ | ⟨g', cap, cur, e, hb, hg, _⟩
  · cases e
  · injection e with e1 e2 e3
    injection e1 with e1
    injection e1 with e1
    subst e1
    exact ⟨hb, (Array.getElem?_eq_some_iff.1 hg).1⟩
/-- What lies at p. -/
theorem OwnP.at {w : World} {base g n p : Nat} {L : List (List Rw)} (h : OwnP w base g n L) (hp : p < n) : ∃ a m c, w.cell? ⟨g, p, none⟩ = some (.slice a m c) ∧ w.frozen? ⟨g, p, none⟩ = false := by
  obtain ⟨vs, h1, h2, h3, h4⟩ := h
  have hl : vs.length = n := by simpa using h1.1
  obtain ⟨u, hu⟩ := getSome (l := vs) (i := p) (by omega)
  obtain ⟨l, hL⟩ := getSome (l := L) (i := p) (by omega)
  obtain ⟨a, c, rfl⟩ := (h3 p u l hu hL).slice
  exact ⟨a, _, c, by rw [h1.cellAt p (by omega), hu], h1.frozenAt p⟩
theorem replicate_get {α : Type} {n i : Nat} {x y : α} (h : (List.replicate n x)[i]? = some y) : y = x := by
  obtain ⟨h1, h2⟩ := List.getElem?_eq_some_iff.1 h
  simpa using h2.symm
theorem OwnP.start (W : World) (base n : Nat) (hb : base ≤ W.heap.size) (hn : n ≤ 100) :
    ∃ W1, (Instr.makeSlice 118 (.int .i64 (n : Int)) (.int .i64 (n : Int))).run Tryz.prog W = .ok (runsV W.heap.size n) W1 ∧ OwnP W1 base W.heap.size n (List.replicate n []) ∧ Below W.heap.size W W1 := by
  obtain ⟨i0, hi, hz0, hz1, hz2⟩ := info_parts Tryz.infoRows
  obtain ⟨W1, h1, h2, h3⟩ := run_make_full (P := Tryz.prog) W base 118 61 i0 _ 1 Tryz.underlying118 hi hz0 hz1 .i64 .i64 n (by rw [hz2]; omega) (by unfold maxLen; omega) hb
  refine ⟨W1, h1, ⟨List.replicate n (.slice none 0 0), ?_, by simp, fun i u l hu hl => ?_, fun i j u u' k _ hu _ hk => ?_⟩, ?_⟩
  · have : (madeCells (Value.slice none 0 0).cells (n * 1)).toList = List.replicate n (.slice none 0 0) := by rw [Nat.mul_one]; exact toList_madeCells_one _ n
    rw [this] at h2
    exact h2
  · rw [replicate_get hu, replicate_get hl]
    exact OwnW.nil _ _
  · rw [replicate_get hu] at hk
    cases hk
  · exact (Below.refl _ _).grown h3 (Nat.le_refl _) (fun k hk => by cases hk)
/-- One row more of the partition p. -/
theorem OwnP.put {W : World} {base g n p : Nat} {L : List (List Rw)} {l : List Rw} {x : Raw} {r : Rw} {u : Value} {b : Nat} (ty : TypeId) (h : OwnP W base g n L) (hL : L[p]? = some l) (hu : W.cell? ⟨g, p, none⟩ = some u)
    (hx : XS W (.slice (some ⟨b, 0, none⟩) 1 1) [x]) (hr : IsW W base x r) (hl : l.length ≤ 100000) (hb : base ≤ W.heap.size) :
    ∃ v' W', (Builtin.append_ #[61, 61] ty #[u, .slice (some ⟨b, 0, none⟩) 1 1]).run Tryz.prog W = .ok v' W' ∧ W'.frozen? ⟨g, p, none⟩ = false ∧ (∃ a m c, v' = .slice a m c) ∧ (∃ u', W'.cell? ⟨g, p, none⟩ = some u') ∧ OwnP (W'.setCell ⟨g, p, none⟩ v') base g n (L.set p (l ++ [r])) ∧ Below base W (W'.setCell ⟨g, p, none⟩ v') := by
  have hbg := h.lt
  obtain ⟨vs, h1, h2, h3, h4⟩ := h
  have hvl : vs.length = n := by simpa using h1.1
  have hp : p < n := by have := (List.getElem?_eq_some_iff.1 hL).1; omega
  obtain ⟨u0, hu0⟩ := getSome (l := vs) (i := p) (by omega)
  have e0 : u0 = u := by
    have := h1.cellAt p (by omega)
    rw [hu, hu0] at this
    injection this with this
    exact this.symm
  subst e0
  obtain ⟨xs, hox, hax⟩ := h3 p u0 l hu0 hL
  obtain ⟨v', W', hrun, hox', hgr, hown⟩ := append_xs ty hox hx (by have := hax.1; simp; omega) hb
  have hk2 := keep_row hox hgr
  have k1 : KeepT 61 W W' := KeepT.row (by decide) hox hgr
  obtain ⟨cur, hcur, hcs⟩ : ∃ cur : Array Value, W.heap[g]? = some (.cells cur 61 (0, 0)) ∧ cur.size = n * 1 := by
    rcases h1.2 with ⟨e, _⟩ | ⟨g', cap, cur, e, hb', hg', _, _, hs, _⟩
    · cases e
    · injection e with e1 e2 e3
      injection e1 with e1
      injection e1 with e1
      subst e1 e3
      exact ⟨cur, hg', hs⟩
  have hcur' := k1 g cur hcur
  have h1' : W'.ownsRow base 61 1 (runsV g n) n vs := by
    refine ⟨h1.1, ?_⟩
    rcases h1.2 with ⟨e, e2⟩ | ⟨g', cap, cur', e, hb', hg', hrest⟩
    · exact .inl ⟨e, e2⟩
    · exact .inr ⟨g', cap, cur', e, hb', k1 g' cur' hg', hrest⟩
  have hs1 := hgr.size
  have kR : KeepT 129 W' (W'.setCell ⟨g, p, none⟩ v') := keepT_set (by decide) hcur'
  have kN : KeepT 2 W' (W'.setCell ⟨g, p, none⟩ v') := keepT_set (by decide) hcur'
  have kN' : Keep2 W' (W'.setCell ⟨g, p, none⟩ v') := ⟨by simp, kN⟩
  have hnew : OwnW W' base v' (l ++ [r]) := ⟨xs ++ [x], hox', (hax.keep hk2).snoc (hr.keep hk2)⟩
  have hget : ∀ (j : Nat), j ≠ p → (vs.set p v')[j]? = vs[j]? := fun j hj => List.getElem?_set_ne (fun e => hj e.symm)
  have hgetL : ∀ (j : Nat), j ≠ p → (L.set p (l ++ [r]))[j]? = L[j]? := fun j hj => List.getElem?_set_ne (fun e => hj e.symm)
  have hgp : (vs.set p v')[p]? = some v' := by rw [List.getElem?_set_self (by omega)]
  have hgpL : (L.set p (l ++ [r]))[p]? = some (l ++ [r]) := by rw [List.getElem?_set_self (by omega)]
  refine ⟨v', W', hrun, h1'.frozenAt p, ?_, ⟨u0, by rw [h1'.cellAt p (by omega), hu0]⟩, ⟨vs.set p v', (h1'.stored p v').1, by simpa using h2, ?_, ?_⟩, ?_⟩
  · obtain ⟨a, c, e⟩ := hnew.slice
    exact ⟨a, _, c, e⟩
  · intro i y m hy hm
    by_cases hi : i = p
    · subst hi
      rw [hgp] at hy
      rw [hgpL] at hm
      injection hy with hy
      injection hm with hm
      subst hy hm
      exact hnew.keepT (by simp) kR kN
    · rw [hget i hi] at hy
      rw [hgetL i hi] at hm
      obtain ⟨ys, q1, q2⟩ := h3 i y m hy hm
      have q3 : OwnX W' base y ys := q1.other hgr (fun k hk => h4 i p y u0 k hi hy hu0 hk)
      exact ⟨ys, q3.keepT kR, (q2.keep hk2).keep kN'⟩
  · intro i j y y' k hij hy hy' hk
    have hlt : ∀ (i : Nat) (y : Value) (k : Nat), vs[i]? = some y → y.ownBlock = some k → k < W.heap.size := fun i y k hy hk => by
      have hi : i < n := by have := (List.getElem?_eq_some_iff.1 hy).1; omega
      obtain ⟨m, hm⟩ := getSome (l := L) (i := i) (by omega)
      obtain ⟨ys, q1, -⟩ := h3 i y m hy hm
      exact q1.blk hk
    by_cases hi : i = p
    · subst hi
      rw [hgp] at hy
      injection hy with hy
      subst hy
      rw [hget j (fun e => hij e.symm)] at hy'
      intro e
      rcases hown with ho | ho
      · rw [ho] at hk
        exact h4 i j u0 y' k hij hu0 hy' hk e
      · rw [ho] at hk
        injection hk with hk
        have := hlt j y' k hy' e
        omega
    · rw [hget i hi] at hy
      by_cases hj : j = p
      · subst hj
        rw [hgp] at hy'
        injection hy' with hy'
        subst hy'
        intro e
        rcases hown with ho | ho
        · rw [ho] at e
          exact h4 i j y u0 k hij hy hu0 hk e
        · rw [ho] at e
          injection e with e
          have := hlt i y k hy hk
          omega
      · rw [hget j hj] at hy'
        exact h4 i j y y' k hij hy hy' hk
  · exact ((Below.refl base W).grown hgr hb (own_row hox)).setCell (p := ⟨g, p, none⟩) hbg.1 v'
/-- The partitions of so many rows, and of one more. -/
theorem prt_put {n : Int} {l : List Rw} {k p : Nat} {r : Rw} (hk : l[k]? = some r) (hp : ofP n r.1 = p) (hn : p < n.toNat) : (prt n (l.take k))[p]? = some (partR (ofP n) (l.take k) p) ∧ (prt n (l.take k)).set p (partR (ofP n) (l.take k) p ++ [r]) = prt n (l.take (k + 1)) := by
  refine ⟨partsR_get _ _ hn, ?_⟩
  rw [List.take_add_one, hk]
  show _ = prt n (l.take k ++ [r])
  apply List.ext_getElem?
  intro i
  by_cases hi : i < n.toNat
  · rw [partsR_get _ _ hi, partR_snoc]
    by_cases he : p = i
    · subst he
      rw [if_pos hp, List.getElem?_set_self (by rw [partsR_len]; exact hi)]
    · rw [if_neg (by omega), List.getElem?_set_ne he, partsR_get _ _ hi]
  · rw [List.getElem?_eq_none (by rw [List.length_set, partsR_len]; omega), List.getElem?_eq_none (by rw [partsR_len]; omega)]
theorem prt_nil (n : Int) : prt n [] = List.replicate n.toNat [] := by
  apply List.ext_getElem?
  intro i
  by_cases hi : i < n.toNat
  · rw [partsR_get _ _ hi]; simp [hi, partR]
  · rw [List.getElem?_eq_none (by rw [partsR_len]; omega), List.getElem?_eq_none (by simp; omega)]
end Go.Proofs.YtclcgakfmcofaaaGreatDoor
/- The page's own: do keys rise, may rows be. -/
namespace Go.Proofs.YtclcgakfmcofaaaGreatDoor
open Go.RowKit
set_option linter.unusedVariables false

/-- Keys that may be, and rise; not too many. -/
def ordB (l : List Rw) : Bool := l.all (fun r => decide (r.1.2.size ≤ 64)) && decide (RiseK l) && decide (l.length ≤ 1536)
structure OrdTo (l : List Rw) (k : Nat) : Prop where
  all : ∀ r ∈ l.take k, r.1.2.size ≤ 64
  rise : RiseK (l.take k)
theorem OrdTo.start (l : List Rw) : OrdTo l 0 := ⟨by simp, by simp [RiseK]⟩
theorem OrdTo.step {l : List Rw} {k : Nat} {r : Rw} (h : OrdTo l k) (hr : l[k]? = some r) (h1 : r.1.2.size ≤ 64) (h2 : ∀ m x, k = m + 1 → l[m]? = some x → ltK x.1 r.1 = true) : OrdTo l (k + 1) := by
  have hstep : l.take (k + 1) = l.take k ++ [r] := by rw [List.take_add_one, hr]; rfl
  have hkl := (List.getElem?_eq_some_iff.1 hr).1
  refine ⟨fun x hx => ?_, ?_⟩
  · rw [hstep] at hx
    rcases List.mem_append.1 hx with hx | hx
    · exact h.all x hx
    · simp at hx; subst hx; exact h1
  · rw [hstep]
    refine rise_snocK h.rise fun x hx => ?_
    rw [List.getLast?_eq_getElem?, List.length_take, Nat.min_eq_left (by omega)] at hx
    have hk0 : 0 < k := by
      rcases Nat.eq_zero_or_pos k with e | e
      · rw [e] at hx; simp at hx
      · exact e
    rw [List.getElem?_take_of_lt (by omega)] at hx
    exact h2 (k - 1) x (by omega) hx
theorem OrdTo.fin {l : List Rw} {k : Nat} (h : OrdTo l k) (hk : l.length ≤ k) : ordB l = decide (l.length ≤ 1536) := by
  obtain ⟨h1, h2⟩ := h
  rw [List.take_of_length_le hk] at h1 h2
  unfold ordB
  rw [List.all_eq_true.2 (fun r hr => decide_eq_true (h1 r hr)), decide_eq_true h2]
  rfl
theorem okRows_ord {agg bound : Int} {l : List Rw} (hw : wayC agg bound = true) (hc : ∀ r ∈ l, mayC agg bound.toNat r.2 = true) : okRows agg bound l = ordB l := by
  have e : ∀ r ∈ l, chk agg bound r.2 = true := fun r hr => by unfold chk; rw [hw, hc r hr]; rfl
  unfold okRows ordB
  rw [hw, Bool.true_and, show l.all (fun r => decide (r.1.2.size ≤ 64) && chk agg bound r.2) = l.all (fun r => decide (r.1.2.size ≤ 64)) from by
    rw [Bool.eq_iff_iff, List.all_eq_true, List.all_eq_true]
    exact ⟨fun h r hr => by have := h r hr; rw [Bool.and_eq_true] at this; exact this.1, fun h r hr => by rw [h r hr, e r hr]; rfl⟩]
  cases l.all (fun r => decide (r.1.2.size ≤ 64)) <;> cases decide (RiseK l) <;> cases decide (l.length ≤ 1536) <;> rfl
end Go.Proofs.YtclcgakfmcofaaaGreatDoor
namespace Go.Proofs.YtclcgakfmcofaaaGreatDoor
open Go.RowKit
set_option linter.unusedVariables false
set_option maxRecDepth 100000
end Go.Proofs.YtclcgakfmcofaaaGreatDoor
/- part.mayStand: may rows be, as key and order go. -/
namespace Go.Proofs.YtclcgakfmcofaaaGreatDoor
open Go.RowKit
set_option linter.unusedVariables false
set_option maxRecDepth 100000

theorem Tryz.infoRow4 : (Tryz.prog.info? 129).map (fun i => (i.zero, i.size, i.bytes)) = some (some (.agg #[.int .i64 0, .string ⟨#[]⟩, .int .i64 0, .slice none 0 0]), 4, 56) := by kernel_rfl
/-- Rows without their cells. -/
def bareR (l : List Rw) : List Rw := l.map fun r => (r.1, (0, []))
theorem bare_rise (l : List Rw) : RiseK (bareR l) ↔ RiseK l := by unfold bareR RiseK; rw [List.pairwise_map]
theorem ord_bare (l : List Rw) : ordB (bareR l) = ordB l := by
  unfold ordB
  rw [show decide (RiseK (bareR l)) = decide (RiseK l) from decide_eq_decide.2 (bare_rise l)]
  unfold bareR
  rw [List.all_map, List.length_map]
  rfl
theorem okRows_bare (l : List Rw) : okRows 1 0 (bareR l) = ordB l := by
  rw [okRows_ord (agg := 1) (bound := 0) (by decide) (fun r hr => by
    unfold bareR at hr
    obtain ⟨x, _, rfl⟩ := List.mem_map.1 hr
    rw [mayN (by decide) (by decide)]
    rfl), ord_bare]
def bareRaw (l : List Rw) : List Raw := l.map fun r => (r.1, 0, (none, 0, 0))
/-- As they lie when k are done. -/
def bareX (l : List Rw) (k : Nat) : List Raw := bareRaw (l.take k) ++ List.replicate (l.length - k) noRaw
theorem bareX_len (l : List Rw) {k : Nat} (h : k ≤ l.length) : (bareX l k).length = l.length := by unfold bareX bareRaw; simp; omega
theorem bareX_get (l : List Rw) {k : Nat} (h : k < l.length) : (bareX l k)[k]? = some noRaw := by
  unfold bareX bareRaw
  rw [List.getElem?_append_right (by simp; omega), List.length_map, List.length_take, Nat.min_eq_left (by omega), Nat.sub_self, List.getElem?_replicate, if_pos (by omega)]
theorem bareX_set (l : List Rw) {k : Nat} {r : Rw} (h : l[k]? = some r) : (bareX l k).set k (r.1, 0, (none, 0, 0)) = bareX l (k + 1) := by
  have hk : k < l.length := (List.getElem?_eq_some_iff.1 h).1
  unfold bareX bareRaw
  rw [List.set_append_right _ _ (by simp; omega), List.length_map, List.length_take, Nat.min_eq_left (by omega), Nat.sub_self, List.take_add_one, h, show l.length - k = (l.length - (k + 1)) + 1 by omega, List.replicate_succ]
  simp
theorem flatW_key (xs : List Raw) (p : Nat) (x : Raw) (k : Ky) (hx : xs[p]? = some x) : flatW (xs.set p (k, x.2)) = ((flatW xs).set (p * 4) (.int .i64 k.1)).set (p * 4 + 1) (.string k.2) := by
  induction xs generalizing p with
  | nil => simp at hx
  | cons a l ih =>
    cases p with
    | zero => simp at hx; subst hx; rfl
    | succ p =>
      have hx' : l[p]? = some x := by simpa using hx
      rw [List.set_cons_succ]
      show encW a ++ flatW (l.set p (k, x.2)) = (((encW a ++ flatW l).set ((p + 1) * 4) (.int .i64 k.1)).set ((p + 1) * 4 + 1) (.string k.2))
      rw [ih p hx']
      have e0 : (p + 1) * 4 = (encW a).length + (p * 4) := by simp [encW]; omega
      have e1 : (p + 1) * 4 + 1 = (encW a).length + (p * 4 + 1) := by simp [encW]; omega
      rw [e1, e0, List.set_append_right _ _ (by omega), List.set_append_right _ _ (by omega)]
      simp
theorem made_flat (n : Nat) : (madeCells #[Value.int .i64 0, .string ⟨#[]⟩, .int .i64 0, .slice none 0 0] (n * 4)).toList = flatW (List.replicate n noRaw) := by
  induction n with
  | zero => simp [madeCells, flatW]
  | succ n ih =>
    have e : flatW (List.replicate (n + 1) noRaw) = flatW (List.replicate n noRaw) ++ [.int .i64 0, .string ⟨#[]⟩, .int .i64 0, .slice none 0 0] := by
      rw [List.replicate_succ', flatW_app]; rfl
    rw [e, ← ih]
    apply List.ext_getElem?
    intro j
    have hlen : (madeCells #[Value.int .i64 0, .string ⟨#[]⟩, .int .i64 0, .slice none 0 0] (n * 4)).toList.length = n * 4 := by simp [madeCells]
    by_cases hj : j < n * 4
    · rw [List.getElem?_append_left (by omega)]
      simp [madeCells, hj, show j < (n + 1) * 4 by omega]
    · rw [List.getElem?_append_right (by omega), hlen]
      by_cases h4 : j < n * 4 + 4
      · obtain ⟨d, hd, rfl⟩ : ∃ d, d < 4 ∧ j = n * 4 + d := ⟨j - n * 4, by omega, by omega⟩
        have hm : (n * 4 + d) % 4 = d := by omega
        rw [show n * 4 + d - n * 4 = d by omega]
        simp only [madeCells, Array.toList_map, List.getElem?_map, Array.toList_range]
        rw [List.getElem?_range (by omega)]
        simp only [Option.map_some, show (#[Value.int .i64 0, .string ⟨#[]⟩, .int .i64 0, .slice none 0 0] : Array Value).size = 4 from rfl, hm]
        match d, hd with
        | 0, _ => rfl
        | 1, _ => rfl
        | 2, _ => rfl
        | 3, _ => rfl
      · rw [List.getElem?_eq_none (by simp [madeCells]; omega), List.getElem?_eq_none (by simp; omega)]
theorem bare_start (W : World) (base : Nat) (l : List Rw) (hb : base ≤ W.heap.size) (hl : l.length ≤ 100000) :
    ∃ W1, (Instr.makeSlice 61 (.int .i64 (l.length : Int)) (.int .i64 (l.length : Int))).run Tryz.prog W = .ok (runsV W.heap.size l.length) W1 ∧ OwnX W1 base (runsV W.heap.size l.length) (bareX l 0) ∧ Below W.heap.size W W1 ∧ W.heap.size < W1.heap.size := by
  obtain ⟨i0, hi, hz0, hz1, hz2⟩ := info_parts Tryz.infoRow4
  obtain ⟨W1, h1, h2, h3⟩ := run_make_full (P := Tryz.prog) W base 61 129 i0 _ 4 Tryz.underlying61 hi hz0 hz1 .i64 .i64 l.length (by rw [hz2]; omega) (by unfold maxLen; omega) hb
  have e : bareX l 0 = List.replicate l.length noRaw := by unfold bareX bareRaw; simp
  refine ⟨W1, h1, ?_, (Below.refl _ _).grown h3 (Nat.le_refl _) (fun k hk => by cases hk), (h2.lt W.heap.size rfl).2⟩
  unfold OwnX
  rw [e, List.length_replicate, ← made_flat]
  exact h2
theorem bare_step {W : World} {base g k : Nat} {l : List Rw} {r : Rw} (h : OwnX W base (runsV g l.length) (bareX l k)) (hr : l[k]? = some r) :
    OwnX ((W.setCell ⟨g, k * 4, none⟩ (.int .i64 r.1.1)).setCell ⟨g, k * 4 + 1, none⟩ (.string r.1.2)) base (runsV g l.length) (bareX l (k + 1)) := by
  have hk : k < l.length := (List.getElem?_eq_some_iff.1 hr).1
  have h0 : W.ownsRow base 129 4 (runsV g l.length) l.length (flatW (bareX l k)) := by
    have h' := h
    unfold OwnX at h'
    rwa [bareX_len l (by omega)] at h'
  have h1 := (h0.stored (k * 4) (.int .i64 r.1.1)).1
  have h2 := (h1.stored (k * 4 + 1) (.string r.1.2)).1
  rw [← flatW_key (bareX l k) k noRaw r.1 (bareX_get l hk)] at h2
  rw [show ((r.1, noRaw.2) : Raw) = (r.1, 0, (none, 0, 0)) from rfl, bareX_set l hr] at h2
  unfold OwnX
  rw [bareX_len l (by omega)]
  exact h2
theorem bare_own {W : World} {base g : Nat} {l : List Rw} (h : OwnX W base (runsV g l.length) (bareX l l.length)) : OwnW W base (runsV g l.length) (bareR l) := by
  refine ⟨_, h, ?_, fun i x r hx hr => ?_⟩
  · rw [bareX_len l (Nat.le_refl _)]; unfold bareR; simp
  · have e : bareX l l.length = bareRaw l := by unfold bareX; simp
    rw [e] at hx
    unfold bareRaw at hx
    unfold bareR at hr
    rw [List.getElem?_map] at hx hr
    cases hl : l[i]? with
    | none => rw [hl] at hx; simp at hx
    | some y =>
      rw [hl] at hx hr
      simp at hx hr
      subst hx hr
      exact ⟨rfl, rfl, World.ownsRow_nil _ _ _ _⟩
theorem bare_lt {W : World} {base g n : Nat} {xs : List Raw} (h : OwnX W base (runsV g n) xs) : base ≤ g ∧ g < W.heap.size ∧ ∀ j, W.frozen? ⟨g, j, none⟩ = false := by
  rcases h.2 with ⟨e, _⟩ | ⟨g', cap, cur, e, hb, hg, _⟩
  · cases e
  · injection e with e1 e2 e3
    injection e1 with e1
    injection e1 with e1
    subst e1
    exact ⟨hb, (Array.getElem?_eq_some_iff.1 hg).1, fun j => by simp [World.frozen?, hg]⟩
theorem bare_cell {W : World} {base g k : Nat} {l : List Rw} (h : OwnX W base (runsV g l.length) (bareX l k)) (hk : k < l.length) : (∃ u, W.cell? ⟨g, k * 4, none⟩ = some u) ∧ ∃ u, W.cell? ⟨g, k * 4 + 1, none⟩ = some u := by
  have h0 : W.ownsRow base 129 4 (runsV g l.length) l.length (flatW (bareX l k)) := by
    have h' := h
    unfold OwnX at h'
    rwa [bareX_len l (by omega)] at h'
  obtain ⟨q0, q1, -, -⟩ := flatW_get _ _ _ (bareX_get l hk)
  exact ⟨⟨_, by rw [h0.cellAt _ (by omega)]; exact q0⟩, ⟨_, by rw [h0.cellAt _ (by omega)]; exact q1⟩⟩
end Go.Proofs.YtclcgakfmcofaaaGreatDoor
/- part.mayStand: the walk. -/
namespace Go.Proofs.YtclcgakfmcofaaaGreatDoor
open Go.RowKit
set_option linter.unusedVariables false
set_option maxRecDepth 100000

set_option maxHeartbeats 1600000 in
theorem mayStand_any (v : Value) (l : List Rw) (w : World) (h : WS w v l) (hl : l.length ≤ 100000) :
    Calls Tryz.prog 165 #[v] w (BoolR w (ordB l)) := by
  obtain ⟨va, vc, rfl, hsh⟩ := h
  obtain ⟨W1, hmk, hX0, hb1, hlt1⟩ := bare_start w w.heap.size l (Nat.le_refl _) hl
  obtain ⟨g, hg⟩ : ∃ g, g = w.heap.size := ⟨_, rfl⟩
  have HC := hidM (fun W (hX : OwnX W w.heap.size (runsV g l.length) (bareX l l.length)) => rcheck_any 1 0 (runsV g l.length) (bareR l) W (bare_own hX).ws (by unfold bareR; simp; exact hl) (fun r hr => by unfold bareR at hr; obtain ⟨y, _, rfl⟩ := List.mem_map.1 hr; simp) (bare_own hX).cap)
  rw [okRows_bare] at HC
  have HMK := hidM hmk
  clear hmk
  go_enter Tryz.func165, Tryz.ntmps165
  have hmk := HMK.out
  go_wp2
  have hX0 : OwnX W1 w.heap.size (runsV g l.length) (bareX l 0) := by rw [hg]; exact hX0
  rw [← hg]
  have HG := hidM hg
  clear hmk hg HMK
  go_loopw [11] (fun i wr => ∃ k : Nat, k ≤ l.length ∧ i = .int .i64 k ∧ OwnX wr w.heap.size (runsV g l.length) (bareX l k) ∧ Below w.heap.size w wr) (fun i _ => l.length - (intOf i).toNat)
  case atStart => exact ⟨0, by omega, rfl, hX0, hb1⟩
  case round =>
    clear hX0 hb1 hlt1
    rename World => w0
    obtain ⟨k, hk, rfl, hX, hbel⟩ := hrel
    have hsz := hbel.size
    by_cases hlt : k < l.length
    · obtain ⟨⟨⟨ya, yb⟩, yn, yl⟩, hy⟩ := getSome hlt
      rcases hsh with rfl | ⟨b, off, rfl, hb, hat⟩
      · simp at hlt
      obtain ⟨c0, c1, c2, s1, p1, c3, n1⟩ := (hat.below hbel hb) k _ hy
      simp only at c0 c1 c2 c3 n1
      have hst : ∀ (W : World) (o : Obj), Below W.heap.size W (W.alloc o) := fun W o => (Below.refl _ _).alloc (Nat.le_refl _) _
      obtain ⟨Wa, hWa⟩ : ∃ Wa : World, Wa = w0.alloc (.cells #[.int .i64 ya, .string yb, .int .i64 yn, .slice s1 yl.length p1] 129) := ⟨_, rfl⟩
      have hba : Below w0.heap.size w0 Wa := by rw [hWa]; exact hst _ _
      have B4 : Blk4 Wa w0.heap.size (.int .i64 ya) (.string yb) (.int .i64 yn) (.slice s1 yl.length p1) := by rw [hWa]; exact Blk4.new w0 _ _ _ _
      obtain ⟨a0, a1, a2, a3, -⟩ := B4.cells
      have hXa := hX.below hba
      obtain ⟨hg1, hg2, hfz⟩ := bare_lt hXa
      obtain ⟨⟨u0, hu0⟩, ⟨u1, hu1⟩⟩ := bare_cell hXa hlt
      have f0 := hfz (k * 4)
      have f1 := hfz (k * 4 + 1)
      rw [hWa] at hu0 hu1 f0 f1
      have hXs := bare_step hXa hy
      simp only at hXs
      rw [hWa] at hXs hba
      have HX := hidM hXs
      have HB := hidM (((hbel.trans (hba.mono hsz)).setCell (p := ⟨g, k * 4, none⟩) hg1 (.int .i64 ya)).setCell (p := ⟨g, k * 4 + 1, none⟩) hg1 (.string yb))
      clear hWa hbel hat n1 hba B4 hy hX hXa hXs hst hfz a0 a1 a2 a3
      go_wp2_with (first | fail)
      go_roundw
      case rel => exact ⟨k + 1, by omega, by go_num, HX.out, HB.out⟩
      case measure => simp [intOf]; omega
    · obtain rfl : k = l.length := by omega
      have HX := hidM (HC.out w0 hX)
      have HB := hidM hbel
      cases ho : ordB l with
      | true =>
        rw [ho] at HX
        go_wp2_with (go_at_call 43; refine HX.out.mono ?_; rintro e W2 ⟨rfl, hb2⟩)
        go_ret
        exact ⟨by rw [ho]; rfl, nxt HB.out hb2⟩
      | false =>
        rw [ho] at HX
        go_wp2_with (go_at_call 43; refine HX.out.mono ?_; rintro e W2 ⟨rfl, hb2⟩)
        go_ret
        exact ⟨by rw [ho]; rfl, nxt HB.out hb2⟩
end Go.Proofs.YtclcgakfmcofaaaGreatDoor
