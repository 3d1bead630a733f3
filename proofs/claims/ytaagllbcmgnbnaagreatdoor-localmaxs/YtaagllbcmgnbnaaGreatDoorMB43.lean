/- Texts laid together: NMem, NCmp, NMth, NSwp, NLess, NDown, NInit, NPop, NPass, NRuns, NLst, NMrg. -/
import Derived.Test.YtaagllbcmgnbnaaGreatDoorMB42
import Derived.Test.YtaagllbcmgnbnaaGreatDoorMB37
import Derived.Test.YtaagllbcmgnbnaaGreatDoorMB12
import Derived.Deep.RegionHeld3
import Derived.ChangeKeysEq
import Derived.BigRegion
import Derived.StillTailTactics
import Derived.Deep.Cut
import Derived.Deep.CutRange
/- The heap of runs in memory: its box, its row; what stays beside it. -/
namespace Go.Proofs.YtaagllbcmgnbnaaGreatDoor
open Go.RowKit
set_option linter.unusedVariables false
set_option maxRecDepth 100000

def encH (x : Hi) : List Value := [slV x.1, .int .i64 (x.2.2 : Int)]
abbrev flatH (l : List Hi) : List Value := l.flatMap encH
theorem flatH_len (l : List Hi) : (flatH l).length = l.length * 2 := by
  induction l with
  | nil => rfl
  | cons a l ih => simp [flatH, encH] at ih ⊢; omega
theorem flatH_get : ∀ (l : List Hi) (i : Nat) (x : Hi), l[i]? = some x → (flatH l)[i * 2]? = some (slV x.1) ∧ (flatH l)[i * 2 + 1]? = some (.int .i64 (x.2.2 : Int))
  | [], i, x, h => by simp at h
  | a :: l, 0, x, h => by simp at h; subst h; simp [flatH, encH]
  | a :: l, i + 1, x, h => by
    simp at h
    have := flatH_get l i x h
    simp only [flatH, List.flatMap_cons, encH] at this ⊢
    have e : (i + 1) * 2 = i * 2 + 1 + 1 := by omega
    rw [e]
    simpa using this
theorem flatH_set : ∀ (l : List Hi) (i : Nat) (x : Hi), i < l.length → ((flatH l).set (i * 2) (slV x.1)).set (i * 2 + 1) (.int .i64 (x.2.2 : Int)) = flatH (l.set i x)
  | [], i, x, h => by simp at h
  | a :: l, 0, x, h => by simp [flatH, encH]
  | a :: l, i + 1, x, h => by
    have := flatH_set l i x (by simpa using h)
    simp only [flatH, List.flatMap_cons, encH, List.set_cons_succ] at this ⊢
    have e : (i + 1) * 2 = i * 2 + 1 + 1 := by omega
    rw [e]
    simp only [List.cons_append, List.nil_append, List.set_cons_succ]
    rw [this]
theorem flatH_take (l : List Hi) : ∀ n, (flatH l).take (n * 2) = flatH (l.take n) := by
  induction l with
  | nil => intro n; simp [flatH]
  | cons a l ih =>
    intro n
    cases n with
    | zero => simp [flatH]
    | succ n =>
      have := ih n
      have e : (n + 1) * 2 = n * 2 + 1 + 1 := by omega
      simp only [flatH, List.flatMap_cons, encH, e, List.take_succ_cons, List.cons_append, List.nil_append] at this ⊢
      rw [this]
abbrev OwnH (w : World) (base : Nat) (v : Value) (H : List Hi) : Prop := w.ownsRow base 99 2 v H.length (flatH H)
/-- What an item is: rows that lay there when the call began. -/
structure ItOk (w0 : World) (x : Hi) : Prop where
  ws : WS w0 (slV x.1) x.2.1
  cap : x.1.2.1 ≤ x.1.2.2
  place : x.2.2 ≤ 100000
/-- The heap's row v holds the items H. -/
structure HR (w0 w : World) (v : Value) (H : List Hi) : Prop where
  row : OwnH w w0.heap.size v H
  bel : Below w0.heap.size w0 w
  it : ∀ x ∈ H, ItOk w0 x
/-- The box at hb holds the heap's row v. -/
structure HP (w0 w : World) (hb : Nat) (v : Value) (H : List Hi) : Prop where
  box : w.heap[hb]? = some (.cells #[v] 71 (0, 0))
  low : w0.heap.size ≤ hb
  hr : HR w0 w v H
/-- All blocks but heaps' rows and boxes stay. -/
def Kp (w w' : World) : Prop := w.heap.size ≤ w'.heap.size ∧ ∀ T : TypeId, T ≠ 71 → T ≠ 99 → KeepT T w w'
theorem Kp.refl (w : World) : Kp w w := ⟨Nat.le_refl _, fun T _ _ g cur h => h⟩
theorem Kp.trans {a b c : World} (h : Kp a b) (k : Kp b c) : Kp a c := ⟨Nat.le_trans h.1 k.1, fun T h1 h2 g cur hg => k.2 T h1 h2 g cur (h.2 T h1 h2 g cur hg)⟩
theorem Kp.below {w w' : World} (h : Below w.heap.size w w') : Kp w w' := ⟨h.size, fun T _ _ => KeepT.below h⟩
theorem Kp.drew (w : World) (q : Nat) : Kp w (w.drewN q) := ⟨Nat.le_refl _, fun T _ _ g cur h => h⟩
theorem Kp.set {w : World} {b : Nat} {cur : Array Value} {T : TypeId} (h : w.heap[b]? = some (.cells cur T (0, 0))) (hT : T = 71 ∨ T = 99) (o : Nat) (u : Value) : Kp w (w.setCell ⟨b, o, none⟩ u) := by
  refine ⟨by simp, fun T' h1 h2 g cur' hg => ?_⟩
  rw [heap_setCell_other w ⟨b, o, none⟩ g u (fun e => ?_)]
  · exact hg
  · have e : g = b := e
    subst e
    rw [h] at hg
    injection hg with hg
    injection hg with _ hg
    rcases hT with rfl | rfl
    · exact h1 hg.symm
    · exact h2 hg.symm
theorem OwnW.kp {w w' : World} {base : Nat} {v : Value} {l : List Rw} (h : OwnW w base v l) (k : Kp w w') : OwnW w' base v l := h.keepT k.1 (k.2 _ (by decide) (by decide)) (k.2 _ (by decide) (by decide))
theorem ownH_row {w : World} {base : Nat} {v : Value} {H : List Hi} (h : OwnH w base v H) : (v = .slice none 0 0 ∧ H = []) ∨ ∃ g cap cur, v = .slice (some ⟨g, 0, none⟩) H.length cap ∧ base ≤ g ∧ w.heap[g]? = some (.cells cur 99 (0, 0)) ∧ H.length ≤ cap ∧ cap ≤ maxLen ∧ (∀ i x, H[i]? = some x → w.cell? ⟨g, i * 2, none⟩ = some (slV x.1) ∧ w.cell? ⟨g, i * 2 + 1, none⟩ = some (.int .i64 (x.2.2 : Int))) := by
  rcases h.2 with ⟨h1, h2⟩ | ⟨g, cap, cur, rfl, h2, h3, h4, h5, h6, h7⟩
  · exact .inl ⟨h1, List.length_eq_zero_iff.1 h2⟩
  · refine .inr ⟨g, cap, cur, rfl, h2, h3, h4, h5, fun i x hx => ?_⟩
    have hi : i < H.length := (List.getElem?_eq_some_iff.1 hx).1
    obtain ⟨q0, q1⟩ := flatH_get H i x hx
    rw [← h7, List.getElem?_take_of_lt (by omega)] at q0 q1
    have hc : ∀ o u, cur.toList[o]? = some u → w.cell? ⟨g, o, none⟩ = some u := fun o u hu => by
      simp only [World.cell?, h3]
      simpa using hu
    exact ⟨hc _ _ q0, hc _ _ q1⟩
theorem HR.below {w0 w w' : World} {v : Value} {H : List Hi} (h : HR w0 w v H) (hb : Below w.heap.size w w') : HR w0 w' v H := ⟨ownsRow_below h.row hb, h.bel.trans (hb.mono h.bel.size), h.it⟩
theorem HP.below {w0 w w' : World} {hb : Nat} {v : Value} {H : List Hi} (h : HP w0 w hb v H) (k : Below w.heap.size w w') : HP w0 w' hb v H := ⟨by rw [k.block hb (Array.getElem?_eq_some_iff.1 h.box).1]; exact h.box, h.low, h.hr.below k⟩
theorem HR.drew {w0 w : World} {v : Value} {H : List Hi} (h : HR w0 w v H) (q : Nat) : HR w0 (w.drewN q) v H := h.below (below_drewN (Below.refl _ _) q)
theorem HP.drew {w0 w : World} {hb : Nat} {v : Value} {H : List Hi} (h : HP w0 w hb v H) (q : Nat) : HP w0 (w.drewN q) hb v H := h.below (below_drewN (Below.refl _ _) q)
theorem HP.cell {w0 w : World} {hb : Nat} {v : Value} {H : List Hi} (h : HP w0 w hb v H) : w.cell? ⟨hb, 0, none⟩ = some v := by simp only [World.cell?, h.box]; rfl
/-- One item more in its place. -/
theorem HR.put {w0 w : World} {g n cap : Nat} {H : List Hi} (h : HR w0 w (.slice (some ⟨g, 0, none⟩) n cap) H) {i : Nat} {x : Hi} (hi : i < H.length) (hx : ItOk w0 x) : HR w0 ((w.setCell ⟨g, i * 2, none⟩ (slV x.1)).setCell ⟨g, i * 2 + 1, none⟩ (.int .i64 (x.2.2 : Int))) (.slice (some ⟨g, 0, none⟩) n cap) (H.set i x) ∧ Kp w ((w.setCell ⟨g, i * 2, none⟩ (slV x.1)).setCell ⟨g, i * 2 + 1, none⟩ (.int .i64 (x.2.2 : Int))) := by
  obtain ⟨hrow, hbel, hit⟩ := h
  rcases ownH_row hrow with ⟨e, -⟩ | ⟨g', cap', cur, e, hge, hg, -⟩
  · cases e
  · injection e with e1 e2 e3
    injection e1 with e1
    injection e1 with e1
    subst e1 e2 e3
    obtain ⟨s1, -⟩ := hrow.stored (i * 2) (slV x.1)
    obtain ⟨s2, -⟩ := s1.stored (i * 2 + 1) (.int .i64 (x.2.2 : Int))
    rw [flatH_set H i x hi] at s2
    have hg2 := heap_setCell_same w g (i * 2) cur _ (slV x.1) hg
    refine ⟨⟨?_, (hbel.setCell (p := ⟨g, _, none⟩) hge _).setCell (p := ⟨g, _, none⟩) hge _, fun y hy => ?_⟩, (Kp.set hg (.inr rfl) _ _).trans (Kp.set hg2 (.inr rfl) _ _)⟩
    · unfold OwnH
      rw [List.length_set]
      exact s2
    · rcases List.mem_or_eq_of_mem_set hy with hy | rfl
      · exact hit y hy
      · exact hx
theorem HP.put {w0 w : World} {hb g n cap : Nat} {H : List Hi} (h : HP w0 w hb (.slice (some ⟨g, 0, none⟩) n cap) H) {i : Nat} {x : Hi} (hi : i < H.length) (hx : ItOk w0 x) : HP w0 ((w.setCell ⟨g, i * 2, none⟩ (slV x.1)).setCell ⟨g, i * 2 + 1, none⟩ (.int .i64 (x.2.2 : Int))) hb (.slice (some ⟨g, 0, none⟩) n cap) (H.set i x) ∧ Kp w ((w.setCell ⟨g, i * 2, none⟩ (slV x.1)).setCell ⟨g, i * 2 + 1, none⟩ (.int .i64 (x.2.2 : Int))) := by
  obtain ⟨k1, k2⟩ := h.hr.put hi hx
  refine ⟨⟨?_, h.low, k1⟩, k2⟩
  rcases ownH_row h.hr.row with ⟨e, -⟩ | ⟨g', cap', cur, e, hge, hg, -⟩
  · cases e
  · injection e with e1 e2 e3
    injection e1 with e1
    injection e1 with e1
    subst e1
    have hne : hb ≠ g := fun e => by
      have := h.box
      rw [e, hg] at this
      injection this with this
      injection this with _ this
      exact absurd this (by decide)
    rw [heap_setCell_other _ ⟨g, _, none⟩ hb _ hne, heap_setCell_other _ ⟨g, _, none⟩ hb _ hne]
    exact h.box
/-- The first ones of the row. -/
theorem HR.pre {w0 w : World} {g n cap : Nat} {H : List Hi} (h : HR w0 w (.slice (some ⟨g, 0, none⟩) n cap) H) (m : Nat) (hm : m ≤ H.length) : HR w0 w (.slice (some ⟨g, 0, none⟩) m cap) (H.take m) := by
  obtain ⟨hrow, hbel, hit⟩ := h
  refine ⟨?_, hbel, fun x hx => hit x (List.mem_of_mem_take hx)⟩
  rcases hrow.2 with ⟨h1, h2⟩ | ⟨g', cap', cur, h1, h2, h3, h4, h5, h6, h7⟩
  · cases h1
  · injection h1 with e1 e2 e3
    injection e1 with e1
    injection e1 with e1
    subst e1 e2 e3
    have hl : (H.take m).length = m := by rw [List.length_take]; omega
    refine ⟨by rw [flatH_len], .inr ⟨g, cap, cur, by rw [hl], h2, h3, by omega, h5, h6, ?_⟩⟩
    rw [hl, ← flatH_take, ← h7, List.take_take]
    congr 1
    omega
end Go.Proofs.YtaagllbcmgnbnaaGreatDoor
/- How two items stand: cmp.Compare at ints and texts, cmp.Or, Less; Len, Swap. -/
namespace Go.Proofs.YtaagllbcmgnbnaaGreatDoor
open Go.RowKit Go.Shelf
set_option linter.unusedVariables false
set_option maxRecDepth 100000
end Go.Proofs.YtaagllbcmgnbnaaGreatDoor
/- The methods of the heap behind the interface value. -/
namespace Go.Proofs.YtaagllbcmgnbnaaGreatDoor
open Go.RowKit Go.Shelf
set_option linter.unusedVariables false
set_option maxRecDepth 100000
end Go.Proofs.YtaagllbcmgnbnaaGreatDoor
/- Len and Swap of the heap. -/
namespace Go.Proofs.YtaagllbcmgnbnaaGreatDoor
open Go.RowKit Go.Shelf
set_option linter.unusedVariables false
set_option maxRecDepth 100000
end Go.Proofs.YtaagllbcmgnbnaaGreatDoor
/- Less of the heap. -/
namespace Go.Proofs.YtaagllbcmgnbnaaGreatDoor
open Go.RowKit Go.Shelf
set_option linter.unusedVariables false
set_option maxRecDepth 100000
end Go.Proofs.YtaagllbcmgnbnaaGreatDoor
/- container/heap: down. -/
namespace Go.Proofs.YtaagllbcmgnbnaaGreatDoor
open Go.RowKit Go.Shelf
set_option linter.unusedVariables false
set_option maxRecDepth 100000
/-- A bool is told. -/
def RetB (e : Ending) : Prop := ∃ b, e = .returned (.bool b)
theorem RetB.mk (b : Bool) : RetB (.returned (.bool b)) := ⟨b, rfl⟩
end Go.Proofs.YtaagllbcmgnbnaaGreatDoor
/- container/heap: Init, Fix at the root, Pop; the heap's own Pop and pass. -/
namespace Go.Proofs.YtaagllbcmgnbnaaGreatDoor
open Go.RowKit Go.Shelf
set_option linter.unusedVariables false
set_option maxRecDepth 100000
end Go.Proofs.YtaagllbcmgnbnaaGreatDoor
/- container/heap: up and Fix at the root, Pop; the heap's own Pop. -/
namespace Go.Proofs.YtaagllbcmgnbnaaGreatDoor
open Go.RowKit Go.Shelf
set_option linter.unusedVariables false
set_option maxRecDepth 100000
end Go.Proofs.YtaagllbcmgnbnaaGreatDoor
/- The heap passes its first row. -/
namespace Go.Proofs.YtaagllbcmgnbnaaGreatDoor
open Go.RowKit Go.Shelf
set_option linter.unusedVariables false
set_option maxRecDepth 100000
/-- The first row is passed: what is left of its run, if anything, stands among the others. -/
def Passed (w0 w w' : World) (hb : Nat) (T : List Hi) (t : List Rw) (p : Nat) : Prop := ∃ v' H' s', HP w0 w' hb v' H' ∧ (if t = [] then H'.Perm T else H'.Perm ((s', t, p) :: T)) ∧ IsHp ltH H' H'.length 0 ∧ Kp w w'
end Go.Proofs.YtaagllbcmgnbnaaGreatDoor
/- local: runsOf. -/
namespace Go.Proofs.YtaagllbcmgnbnaaGreatDoor
open Go.RowKit Go.Shelf
set_option linter.unusedVariables false
set_option maxRecDepth 100000
/-- The items of the first k runs. -/
structure HUp (H : List Hi) (L : List (List Rw)) (k : Nat) : Prop where
  at_ : ∀ x ∈ H, x.2.1 ≠ [] ∧ L[x.2.2]? = some x.2.1 ∧ x.2.2 < k
  all : ∀ (i : Nat) (r : Rw) (l : List Rw), i < k → L[i]? = some (r :: l) → ∃ x ∈ H, x.2.2 = i
  nodup : (H.map (·.2.2)).Nodup
  len : H.length ≤ k
theorem HUp.start (L : List (List Rw)) : HUp [] L 0 := ⟨fun x h => (by cases h), fun i r l h => (by omega), List.nodup_nil, Nat.le_refl _⟩
theorem HUp.add {H : List Hi} {L : List (List Rw)} {k : Nat} {s : Sl} {l : List Rw} (h : HUp H L k) (hk : L[k]? = some l) (hl : l ≠ []) : HUp (H ++ [(s, l, k)]) L (k + 1) :=
  ⟨fun x hx => by
    rcases List.mem_append.1 hx with hx | hx
    · exact ⟨(h.at_ x hx).1, (h.at_ x hx).2.1, by have := (h.at_ x hx).2.2; omega⟩
    · simp at hx; subst hx; exact ⟨hl, hk, Nat.lt_succ_self k⟩, fun i r l' hi hr => by
    by_cases e : i = k
    · exact ⟨(s, l, k), by simp, e.symm⟩
    · obtain ⟨x, hx, ex⟩ := h.all i r l' (by omega) hr
      exact ⟨x, by simp [hx], ex⟩, by
    rw [List.map_append, List.nodup_append]
    refine ⟨h.nodup, by simp, fun a ha b hb e => ?_⟩
    obtain ⟨x, hx, rfl⟩ := List.mem_map.1 ha
    simp at hb
    have := (h.at_ x hx).2.2
    omega, by have := h.len; rw [List.length_append]; simp; omega⟩
theorem HUp.rel {H : List Hi} {L : List (List Rw)} (h : HUp H L L.length) : HRel H L :=
  ⟨fun x hx => ⟨(h.at_ x hx).1, (h.at_ x hx).2.1⟩, fun i r l hr => h.all i r l (List.getElem?_eq_some_iff.1 hr).1 hr, h.nodup⟩
theorem OwnH.slice {w : World} {base : Nat} {v : Value} {H : List Hi} (h : OwnH w base v H) : ∃ a n c, v = .slice a n c := by
  rcases ownH_row h with ⟨e, -⟩ | ⟨g, cap, cur, e, -⟩
  · exact ⟨_, _, _, e⟩
  · exact ⟨_, _, _, e⟩
/-- What runsOf answers where all may be. -/
def RunsOf (w w' : World) (v : Value) (L : List (List Rw)) : Prop := ∃ H, HR w w' v H ∧ HRel H L ∧ IsHp ltH H H.length 0 ∧ H.length ≤ L.length
def RofR (w : World) (ok : Bool) (L : List (List Rw)) (e : Ending) (w' : World) : Prop := (ok = false → e = .returned (.tuple #[.slice none 0 0, .int .i64 1])) ∧ (ok = true → ∃ v, e = .returned (.tuple #[v, .int .i64 0]) ∧ RunsOf w w' v L) ∧ Below w.heap.size w w'
theorem RofR.bad {w w' : World} {ok : Bool} {L : List (List Rw)} (h : ok = false) (hb : Below w.heap.size w w') : RofR w ok L (.returned (.tuple #[.slice none 0 0, .int .i64 1])) w' := ⟨fun _ => rfl, fun h2 => (by rw [h] at h2; cases h2), hb⟩
end Go.Proofs.YtaagllbcmgnbnaaGreatDoor
/- local: least. -/
namespace Go.Proofs.YtaagllbcmgnbnaaGreatDoor
open Go.RowKit Go.Shelf
set_option linter.unusedVariables false
set_option maxRecDepth 100000

/-- Slices of one row each: what they hold lay there when the call began. -/
def OwnV (w0 w : World) (base : Nat) (v : Value) (X : List Rw) : Prop := ∃ vs, w.ownsRow base 37 1 v vs.length vs ∧ vs.length = X.length ∧ ∀ (i : Nat) (u : Value) (x : Rw), vs[i]? = some u → X[i]? = some x → WS w0 u [x] ∧ CapOk u
theorem OwnV.nil (w0 w : World) (base : Nat) : OwnV w0 w base (.slice none 0 0) [] := ⟨[], World.ownsRow_nil _ _ _ _, rfl, fun i u l h => by simp at h⟩
theorem OwnV.kp {w0 w w' : World} {base : Nat} {v : Value} {X : List Rw} (h : OwnV w0 w base v X) (k : Kp w w') : OwnV w0 w' base v X := by
  obtain ⟨vs, h1, h2, h3⟩ := h
  refine ⟨vs, ⟨h1.1, ?_⟩, h2, h3⟩
  rcases h1.2 with h4 | ⟨g, cap, cur, e1, e2, e3, e4⟩
  · exact .inl h4
  · exact .inr ⟨g, cap, cur, e1, e2, k.2 _ (by decide) (by decide) g cur e3, e4⟩
/-- They may be read as runs. -/
theorem OwnV.rns {w0 w : World} {base : Nat} {v : Value} {X : List Rw} (h : OwnV w0 w base v X) (hb : Below w0.heap.size w0 w) : RnS w v (X.map fun x => [x]) := by
  obtain ⟨vs, hx, hl, ha⟩ := h
  rcases hx.2 with ⟨rfl, h0⟩ | ⟨g, cap, cur, rfl, _, hg, _, _, _, ht⟩
  · have : vs = [] := List.length_eq_zero_iff.1 h0
    subst this
    have : X = [] := List.length_eq_zero_iff.1 hl.symm
    subst this
    exact ⟨none, 0, rfl, .inl rfl⟩
  · refine ⟨_, cap, by rw [hl, List.length_map], .inr ⟨g, 0, rfl, (Array.getElem?_eq_some_iff.1 hg).1, fun i l hi => ?_⟩⟩
    rw [List.getElem?_map] at hi
    cases hxi : X[i]? with
    | none => rw [hxi] at hi; cases hi
    | some x =>
      rw [hxi] at hi
      injection hi with hi
      subst hi
      have hil : i < X.length := (List.getElem?_eq_some_iff.1 hxi).1
      obtain ⟨u, hu⟩ := getSome (l := vs) (i := i) (by rw [hl]; exact hil)
      obtain ⟨k1, k2⟩ := ha i u x hu hxi
      refine ⟨u, ?_, k1.below hb, k2⟩
      have h0 := hu
      rw [← ht, List.getElem?_take_of_lt (by omega)] at h0
      rw [Nat.zero_add]
      simp only [World.cell?, hg]
      simpa using h0
/-- Behind a growing of another row all stays. -/
theorem HP.grow {w0 w w' : World} {hb : Nat} {v : Value} {H : List Hi} (h : HP w0 w hb v H) (k1 : KeepT 71 w w') (k2 : KeepT 99 w w') (hbel : Below w0.heap.size w0 w') : HP w0 w' hb v H := by
  refine ⟨k1 _ _ h.box, h.low, ⟨h.hr.row.1, ?_⟩, hbel, h.hr.it⟩
  rcases h.hr.row.2 with h4 | ⟨g, cap, cur, e1, e2, e3, e4⟩
  · exact .inl h4
  · exact .inr ⟨g, cap, cur, e1, e2, k2 g cur e3, e4⟩
theorem Kp.grown {w wr w' : World} {v : Value} (h : Kp w wr) (hg : wr.grownBy w' v.ownBlock) (hv : ∀ k, v.ownBlock = some k → w.heap.size ≤ k) : Kp w w' := by
  refine ⟨Nat.le_trans h.1 hg.size, fun T h1 h2 g cur hh => ?_⟩
  have hgl := (Array.getElem?_eq_some_iff.1 hh).1
  rw [hg.block g (Nat.lt_of_lt_of_le hgl h.1) (fun e => ?_)]
  · exact h.2 T h1 h2 g cur hh
  · have := hv g e.symm
    omega
/-- How far the taking of the least key is. -/
structure Lst (w0 w wr : World) (hb : Nat) (rv v : Value) (X : List Rw) (H : List Hi) (R0 R : List (List Rw)) (k : Ky) : Prop where
  own : OwnV w0 wr w.heap.size rv X
  hp : HP w0 wr hb v H
  rel : HRel H R
  rise : ∀ l ∈ R, RiseK l
  heap : IsHp ltH H H.length 0
  split : ofK k R0.flatten = X ++ ofK k R.flatten
  others : ∀ x, x ≠ k → ofK x R0.flatten = ofK x R.flatten
  low : ∀ y ∈ R.flatten, ltK y.1 k = false
  kp : Kp w wr
  len : H.length ≤ 1000
  rlen : R.length = R0.length
/-- What least answers. -/
def LeastR (w0 w w' : World) (hb : Nat) (rv : Value) (R0 : List (List Rw)) (k : Ky) : Prop := ∃ v H R, Lst w0 w w' hb rv v (ofK k R0.flatten) H R0 R k ∧ ofK k R.flatten = [] ∧ ∀ y ∈ R.flatten, ltK k y.1 = true
theorem Lst.step {w0 w wr W2 W3 : World} {hb : Nat} {rv rv' v : Value} {X : List Rw} {T : List Hi} {R0 R : List (List Rw)} {k : Ky} {s : Sl} {r : Rw} {t : List Rw} {p : Nat} (h : Lst w0 w wr hb rv v X ((s, r :: t, p) :: T) R0 R k) (hk : r.1 = k)
    (ho : OwnV w0 W2 w.heap.size rv' (X ++ [r])) (hk2 : Kp w W2) (hp : Passed w0 W2 W3 hb T t p) : ∃ v' H', Lst w0 w W3 hb rv' v' (X ++ [r]) H' R0 (R.set p t) k := by
  obtain ⟨v', H', s', h1, h2, h3, h4⟩ := hp
  have hroot := h.heap.root ordH ltH_irrefl (x := (s, r :: t, p)) rfl
  obtain ⟨q1, q2, q3, q4, q5⟩ := h.rel.take h.rise (fun y hy => by obtain ⟨i, hi⟩ := List.getElem?_of_mem hy; exact hroot i y hi)
  rw [hk] at q1 q2
  refine ⟨v', H', ho.kp h4, h1, h.rel.next h2, q3, h3, ?_, fun x hx => (h.others x hx).trans (q2 x hx), fun y hy => h.low y (q4 y hy), hk2.trans h4, ?_, by rw [List.length_set]; exact h.rlen⟩
  · rw [h.split, q1, List.append_assoc]; rfl
  · have hl := h.len
    by_cases ht : t = []
    · rw [if_pos ht] at h2
      rw [h2.length_eq]
      simp at hl
      omega
    · rw [if_neg ht] at h2
      rw [h2.length_eq]
      simpa using hl
theorem Lst.below {w0 w wr W : World} {hb : Nat} {rv v : Value} {X : List Rw} {H : List Hi} {R0 R : List (List Rw)} {k : Ky} (h : Lst w0 w wr hb rv v X H R0 R k) (hW : Below wr.heap.size wr W) : Lst w0 w W hb rv v X H R0 R k := ⟨h.own.kp (Kp.below hW), h.hp.below hW, h.rel, h.rise, h.heap, h.split, h.others, h.low, h.kp.trans (Kp.below hW), h.len, h.rlen⟩
end Go.Proofs.YtaagllbcmgnbnaaGreatDoor
/- local: Merge. -/
namespace Go.Proofs.YtaagllbcmgnbnaaGreatDoor
open Go.RowKit Go.Shelf
set_option linter.unusedVariables false
set_option maxRecDepth 100000

theorem OwnX.xs {w : World} {base : Nat} {v : Value} {xs : List Raw} (h : OwnX w base v xs) : XS w v xs := by
  have h0 := h
  rcases h.2 with ⟨rfl, e⟩ | ⟨g, cap, cur, rfl, -, -⟩
  · have : xs = [] := List.length_eq_zero_iff.1 e
    subst this
    exact ⟨none, 0, rfl, .inl rfl⟩
  · obtain ⟨h1, -, -, h2⟩ := h0.cell
    exact ⟨_, cap, rfl, .inr ⟨g, 0, rfl, h1, fun j u hj => by rw [Nat.zero_add]; exact h2 j u hj⟩⟩
/-- How far the merging is, in memory. -/
structure Mrg (w wr : World) (hb : Nat) (va v : Value) (agg bound : Int) (L R : List (List Rw)) (H : List Hi) (out : List Rw) (bad : Int) (n : Nat) : Prop where
  own : OwnW wr w.heap.size va out
  hp : HP w wr hb v H
  rel : HRel H R
  rise : ∀ l ∈ R, RiseK l
  heap : IsHp ltH H H.length 0
  mg : Mg (joinC agg bound.toNat) L R out bad n
  sub : ∀ y ∈ R.flatten, y ∈ L.flatten
  rlen : R.length = L.length
  hlen : H.length ≤ 1000
theorem Mrg.next {w wr W1 W3 : World} {hb : Nat} {va va' v rv : Value} {agg bound : Int} {L R : List (List Rw)} {H : List Hi} {out : List Rw} {bad : Int} {n : Nat} {x0 : Hi} (h : Mrg w wr hb va v agg bound L R H out bad n) (hx0 : H[0]? = some x0)
    (hl : LeastR w wr W1 hb rv R (hkey x0)) (k1 : KeepT 71 W1 W3) (k2 : KeepT 99 W1 W3) (hb3 : Below w.heap.size w W3) (ho : OwnW W3 w.heap.size va' (out ++ (fin (gat (joinC agg bound.toNat) (ofK (hkey x0) R.flatten))).1)) :
    ∃ v' H' R', Mrg w W3 hb va' v' agg bound L R' H' (out ++ (fin (gat (joinC agg bound.toNat) (ofK (hkey x0) R.flatten))).1) (if (fin (gat (joinC agg bound.toNat) (ofK (hkey x0) R.flatten))).2 = 0 then bad else (fin (gat (joinC agg bound.toNat) (ofK (hkey x0) R.flatten))).2) (n + 1) := by
  obtain ⟨v', H', R', l1, l2, l3⟩ := hl
  have hne : ofK (hkey x0) R.flatten ≠ [] := by
    obtain ⟨h1, h2⟩ := h.rel.at_ x0 (List.mem_of_getElem? hx0)
    obtain ⟨r, t, hr⟩ : ∃ r t, x0.2.1 = r :: t := by
      cases hc : x0.2.1 with
      | nil => exact absurd hc h1
      | cons r t => exact ⟨r, t, rfl⟩
    have hm : r ∈ ofK (hkey x0) R.flatten := mem_ofK.2 ⟨List.mem_flatten.2 ⟨_, List.mem_of_getElem? h2, by rw [hr]; simp⟩, by unfold hkey; rw [hr]⟩
    exact List.ne_nil_of_mem hm
  refine ⟨v', H', R', ho, l1.hp.grow k1 k2 hb3, l1.rel, l1.rise, l1.heap, h.mg.step hne l2 l1.others l3, fun y hy => ?_, l1.rlen.trans h.rlen, l1.len⟩
  have hyk : y.1 ≠ hkey x0 := fun e => by have := l3 y hy; rw [e, ltK_irrefl] at this; cases this
  have : y ∈ ofK y.1 R'.flatten := mem_ofK.2 ⟨hy, rfl⟩
  rw [← l1.others y.1 hyk] at this
  exact h.sub y (mem_ofK.1 this).1
end Go.Proofs.YtaagllbcmgnbnaaGreatDoor
