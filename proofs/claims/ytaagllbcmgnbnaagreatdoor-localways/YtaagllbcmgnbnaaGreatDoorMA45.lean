/- Texts laid together: NMem, NCmp, NMth, NSwp, NLess, NDown, NInit, NPop, NPass, NRuns, NLst, NMrg. -/
import Derived.Test.YtaagllbcmgnbnaaGreatDoorMA44
import Derived.Test.YtaagllbcmgnbnaaGreatDoorMA39
import Derived.Test.YtaagllbcmgnbnaaGreatDoorMA12
import Derived.Deep.RegionHeld3
import Derived.ChangeKeysEq
import Derived.BigRegion
import Derived.StillTailTactics
import Derived.Deep.Cut
import Derived.Deep.CutRange
/- The heap of runs in memory: its box, its row; what stays beside it. -/
namespace Go.Proofs.YtaagllbcmgnbnaaGreatDoor
open Go.RowKit
set_option linter.unusedVariables false
set_option maxRecDepth 100000

def encH (x : Hi) : List Value := [slV x.1, .int .i64 (x.2.2 : Int)]
abbrev flatH (l : List Hi) : List Value := l.flatMap encH
theorem flatH_len (l : List Hi) : (flatH l).length = l.length * 2 := by
  induction l with
  | nil => rfl
  | cons a l ih => simp [flatH, encH] at ih ⊢; omega
theorem flatH_app (l m : List Hi) : flatH (l ++ m) = flatH l ++ flatH m := by simp [flatH]
theorem flatH_get : ∀ (l : List Hi) (i : Nat) (x : Hi), l[i]? = some x → (flatH l)[i * 2]? = some (slV x.1) ∧ (flatH l)[i * 2 + 1]? = some (.int .i64 (x.2.2 : Int))
  | [], i, x, h => by simp at h
  | a :: l, 0, x, h => by simp at h; subst h; simp [flatH, encH]
  | a :: l, i + 1, x, h => by
    simp at h
    have := flatH_get l i x h
    simp only [flatH, List.flatMap_cons, encH] at this ⊢
    have e : (i + 1) * 2 = i * 2 + 1 + 1 := by omega
    rw [e]
    simpa using this
theorem flatH_set : ∀ (l : List Hi) (i : Nat) (x : Hi), i < l.length → ((flatH l).set (i * 2) (slV x.1)).set (i * 2 + 1) (.int .i64 (x.2.2 : Int)) = flatH (l.set i x)
  | [], i, x, h => by simp at h
  | a :: l, 0, x, h => by simp [flatH, encH]
  | a :: l, i + 1, x, h => by
    have := flatH_set l i x (by simpa using h)
    simp only [flatH, List.flatMap_cons, encH, List.set_cons_succ] at this ⊢
    have e : (i + 1) * 2 = i * 2 + 1 + 1 := by omega
    rw [e]
    simp only [List.cons_append, List.nil_append, List.set_cons_succ]
    rw [this]
theorem flatH_take (l : List Hi) : ∀ n, (flatH l).take (n * 2) = flatH (l.take n) := by
  induction l with
  | nil => intro n; simp [flatH]
  | cons a l ih =>
    intro n
    cases n with
    | zero => simp [flatH]
    | succ n =>
      have := ih n
      have e : (n + 1) * 2 = n * 2 + 1 + 1 := by omega
      simp only [flatH, List.flatMap_cons, encH, e, List.take_succ_cons, List.cons_append, List.nil_append] at this ⊢
      rw [this]
abbrev OwnH (w : World) (base : Nat) (v : Value) (H : List Hi) : Prop := w.ownsRow base 99 2 v H.length (flatH H)
/-- What an item is: rows that lay there when the call began. -/
structure ItOk (w0 : World) (x : Hi) : Prop where
  ws : WS w0 (slV x.1) x.2.1
  cap : x.1.2.1 ≤ x.1.2.2
  place : x.2.2 ≤ 100000
/-- The heap's row v holds the items H. -/
structure HR (w0 w : World) (v : Value) (H : List Hi) : Prop where
  row : OwnH w w0.heap.size v H
  bel : Below w0.heap.size w0 w
  it : ∀ x ∈ H, ItOk w0 x
/-- The box at hb holds the heap's row v. -/
structure HP (w0 w : World) (hb : Nat) (v : Value) (H : List Hi) : Prop where
  box : w.heap[hb]? = some (.cells #[v] 71 (0, 0))
  low : w0.heap.size ≤ hb
  hr : HR w0 w v H
/-- All blocks but heaps' rows and boxes stay. -/
def Kp (w w' : World) : Prop := w.heap.size ≤ w'.heap.size ∧ ∀ T : TypeId, T ≠ 71 → T ≠ 99 → KeepT T w w'
theorem Kp.refl (w : World) : Kp w w := ⟨Nat.le_refl _, fun T _ _ g cur h => h⟩
theorem Kp.trans {a b c : World} (h : Kp a b) (k : Kp b c) : Kp a c := ⟨Nat.le_trans h.1 k.1, fun T h1 h2 g cur hg => k.2 T h1 h2 g cur (h.2 T h1 h2 g cur hg)⟩
theorem Kp.below {w w' : World} (h : Below w.heap.size w w') : Kp w w' := ⟨h.size, fun T _ _ => KeepT.below h⟩
theorem Kp.drew (w : World) (q : Nat) : Kp w (w.drewN q) := ⟨Nat.le_refl _, fun T _ _ g cur h => h⟩
theorem Kp.set {w : World} {b : Nat} {cur : Array Value} {T : TypeId} (h : w.heap[b]? = some (.cells cur T (0, 0))) (hT : T = 71 ∨ T = 99) (o : Nat) (u : Value) : Kp w (w.setCell ⟨b, o, none⟩ u) := by
  refine ⟨by simp, fun T' h1 h2 g cur' hg => ?_⟩
  rw [heap_setCell_other w ⟨b, o, none⟩ g u (fun e => ?_)]
  · exact hg
  · have e : g = b := e
    subst e
    rw [h] at hg
    injection hg with hg
    injection hg with _ hg
    rcases hT with rfl | rfl
    · exact h1 hg.symm
    · exact h2 hg.symm
theorem OwnW.kp {w w' : World} {base : Nat} {v : Value} {l : List Rw} (h : OwnW w base v l) (k : Kp w w') : OwnW w' base v l := h.keepT k.1 (k.2 _ (by decide) (by decide)) (k.2 _ (by decide) (by decide))
theorem ownH_row {w : World} {base : Nat} {v : Value} {H : List Hi} (h : OwnH w base v H) : (v = .slice none 0 0 ∧ H = []) ∨ ∃ g cap cur, v = .slice (some ⟨g, 0, none⟩) H.length cap ∧ base ≤ g ∧ w.heap[g]? = some (.cells cur 99 (0, 0)) ∧ H.length ≤ cap ∧ cap ≤ maxLen ∧ (∀ i x, H[i]? = some x → w.cell? ⟨g, i * 2, none⟩ = some (slV x.1) ∧ w.cell? ⟨g, i * 2 + 1, none⟩ = some (.int .i64 (x.2.2 : Int))) := by
  rcases h.2 with ⟨h1, h2⟩ | ⟨g, cap, cur, rfl, h2, h3, h4, h5, h6, h7⟩
  · exact .inl ⟨h1, List.length_eq_zero_iff.1 h2⟩
  · refine .inr ⟨g, cap, cur, rfl, h2, h3, h4, h5, fun i x hx => ?_⟩
    have hi : i < H.length := (List.getElem?_eq_some_iff.1 hx).1
    obtain ⟨q0, q1⟩ := flatH_get H i x hx
    rw [← h7, List.getElem?_take_of_lt (by omega)] at q0 q1
    have hc : ∀ o u, cur.toList[o]? = some u → w.cell? ⟨g, o, none⟩ = some u := fun o u hu => by
      simp only [World.cell?, h3]
      simpa using hu
    exact ⟨hc _ _ q0, hc _ _ q1⟩
theorem HR.below {w0 w w' : World} {v : Value} {H : List Hi} (h : HR w0 w v H) (hb : Below w.heap.size w w') : HR w0 w' v H := ⟨ownsRow_below h.row hb, h.bel.trans (hb.mono h.bel.size), h.it⟩
theorem HP.below {w0 w w' : World} {hb : Nat} {v : Value} {H : List Hi} (h : HP w0 w hb v H) (k : Below w.heap.size w w') : HP w0 w' hb v H := ⟨by rw [k.block hb (Array.getElem?_eq_some_iff.1 h.box).1]; exact h.box, h.low, h.hr.below k⟩
theorem HR.drew {w0 w : World} {v : Value} {H : List Hi} (h : HR w0 w v H) (q : Nat) : HR w0 (w.drewN q) v H := h.below (below_drewN (Below.refl _ _) q)
theorem HP.drew {w0 w : World} {hb : Nat} {v : Value} {H : List Hi} (h : HP w0 w hb v H) (q : Nat) : HP w0 (w.drewN q) hb v H := h.below (below_drewN (Below.refl _ _) q)
theorem HP.cell {w0 w : World} {hb : Nat} {v : Value} {H : List Hi} (h : HP w0 w hb v H) : w.cell? ⟨hb, 0, none⟩ = some v := by simp only [World.cell?, h.box]; rfl
/-- One item more in its place. -/
theorem HR.put {w0 w : World} {g n cap : Nat} {H : List Hi} (h : HR w0 w (.slice (some ⟨g, 0, none⟩) n cap) H) {i : Nat} {x : Hi} (hi : i < H.length) (hx : ItOk w0 x) : HR w0 ((w.setCell ⟨g, i * 2, none⟩ (slV x.1)).setCell ⟨g, i * 2 + 1, none⟩ (.int .i64 (x.2.2 : Int))) (.slice (some ⟨g, 0, none⟩) n cap) (H.set i x) ∧ Kp w ((w.setCell ⟨g, i * 2, none⟩ (slV x.1)).setCell ⟨g, i * 2 + 1, none⟩ (.int .i64 (x.2.2 : Int))) := by
  obtain ⟨hrow, hbel, hit⟩ := h
  rcases ownH_row hrow with ⟨e, -⟩ | ⟨g', cap', cur, e, hge, hg, -⟩
  · cases e
  · injection e with e1 e2 e3
    injection e1 with e1
    injection e1 with e1
    subst e1 e2 e3
    obtain ⟨s1, -⟩ := hrow.stored (i * 2) (slV x.1)
    obtain ⟨s2, -⟩ := s1.stored (i * 2 + 1) (.int .i64 (x.2.2 : Int))
    rw [flatH_set H i x hi] at s2
    have hg2 := heap_setCell_same w g (i * 2) cur _ (slV x.1) hg
    refine ⟨⟨?_, (hbel.setCell (p := ⟨g, _, none⟩) hge _).setCell (p := ⟨g, _, none⟩) hge _, fun y hy => ?_⟩, (Kp.set hg (.inr rfl) _ _).trans (Kp.set hg2 (.inr rfl) _ _)⟩
    · unfold OwnH
      rw [List.length_set]
      exact s2
    · rcases List.mem_or_eq_of_mem_set hy with hy | rfl
      · exact hit y hy
      · exact hx
theorem HP.put {w0 w : World} {hb g n cap : Nat} {H : List Hi} (h : HP w0 w hb (.slice (some ⟨g, 0, none⟩) n cap) H) {i : Nat} {x : Hi} (hi : i < H.length) (hx : ItOk w0 x) : HP w0 ((w.setCell ⟨g, i * 2, none⟩ (slV x.1)).setCell ⟨g, i * 2 + 1, none⟩ (.int .i64 (x.2.2 : Int))) hb (.slice (some ⟨g, 0, none⟩) n cap) (H.set i x) ∧ Kp w ((w.setCell ⟨g, i * 2, none⟩ (slV x.1)).setCell ⟨g, i * 2 + 1, none⟩ (.int .i64 (x.2.2 : Int))) := by
  obtain ⟨k1, k2⟩ := h.hr.put hi hx
  refine ⟨⟨?_, h.low, k1⟩, k2⟩
  rcases ownH_row h.hr.row with ⟨e, -⟩ | ⟨g', cap', cur, e, hge, hg, -⟩
  · cases e
  · injection e with e1 e2 e3
    injection e1 with e1
    injection e1 with e1
    subst e1
    have hne : hb ≠ g := fun e => by
      have := h.box
      rw [e, hg] at this
      injection this with this
      injection this with _ this
      exact absurd this (by decide)
    rw [heap_setCell_other _ ⟨g, _, none⟩ hb _ hne, heap_setCell_other _ ⟨g, _, none⟩ hb _ hne]
    exact h.box
/-- Another row in the box. -/
theorem HP.rebox {w0 w : World} {hb : Nat} {v v' : Value} {H H' : List Hi} (h : HP w0 w hb v H) (h' : HR w0 w v' H') : HP w0 (w.setCell ⟨hb, 0, none⟩ v') hb v' H' ∧ Kp w (w.setCell ⟨hb, 0, none⟩ v') := by
  have hs := heap_setCell_same w hb 0 _ _ v' h.box
  refine ⟨⟨by rw [hs]; rfl, h.low, ?_, h'.bel.setCell (p := ⟨hb, 0, none⟩) h.low _, h'.it⟩, Kp.set h.box (.inl rfl) _ _⟩
  refine ⟨h'.row.1, ?_⟩
  rcases h'.row.2 with h1 | ⟨g, cap, cur, h1, h2, h3, h4⟩
  · exact .inl h1
  · refine .inr ⟨g, cap, cur, h1, h2, ?_, h4⟩
    rw [heap_setCell_other _ ⟨hb, 0, none⟩ g _ (fun e => ?_)]
    · exact h3
    · have e : g = hb := e
      rw [e, h.box] at h3
      injection h3 with h3
      injection h3 with _ h3
      exact absurd h3 (by decide)
/-- The first ones of the row. -/
theorem HR.pre {w0 w : World} {g n cap : Nat} {H : List Hi} (h : HR w0 w (.slice (some ⟨g, 0, none⟩) n cap) H) (m : Nat) (hm : m ≤ H.length) : HR w0 w (.slice (some ⟨g, 0, none⟩) m cap) (H.take m) := by
  obtain ⟨hrow, hbel, hit⟩ := h
  refine ⟨?_, hbel, fun x hx => hit x (List.mem_of_mem_take hx)⟩
  rcases hrow.2 with ⟨h1, h2⟩ | ⟨g', cap', cur, h1, h2, h3, h4, h5, h6, h7⟩
  · cases h1
  · injection h1 with e1 e2 e3
    injection e1 with e1
    injection e1 with e1
    subst e1 e2 e3
    have hl : (H.take m).length = m := by rw [List.length_take]; omega
    refine ⟨by rw [flatH_len], .inr ⟨g, cap, cur, by rw [hl], h2, h3, by omega, h5, h6, ?_⟩⟩
    rw [hl, ← flatH_take, ← h7, List.take_take]
    congr 1
    omega
theorem HP.swap {w0 w : World} {hb g n cap : Nat} {H : List Hi} (h : HP w0 w hb (.slice (some ⟨g, 0, none⟩) n cap) H) {i j : Nat} {x y : Hi} (hx : H[i]? = some x) (hy : H[j]? = some y) :
    HP w0 ((((w.setCell ⟨g, i * 2, none⟩ (slV y.1)).setCell ⟨g, i * 2 + 1, none⟩ (.int .i64 (y.2.2 : Int))).setCell ⟨g, j * 2, none⟩ (slV x.1)).setCell ⟨g, j * 2 + 1, none⟩ (.int .i64 (x.2.2 : Int))) hb (.slice (some ⟨g, 0, none⟩) n cap) (swp H i j) ∧
    Kp w ((((w.setCell ⟨g, i * 2, none⟩ (slV y.1)).setCell ⟨g, i * 2 + 1, none⟩ (.int .i64 (y.2.2 : Int))).setCell ⟨g, j * 2, none⟩ (slV x.1)).setCell ⟨g, j * 2 + 1, none⟩ (.int .i64 (x.2.2 : Int))) := by
  have hi := (List.getElem?_eq_some_iff.1 hx).1
  have hj := (List.getElem?_eq_some_iff.1 hy).1
  obtain ⟨k1, k2⟩ := h.put (i := i) (x := y) hi (h.hr.it y (List.mem_of_getElem? hy))
  obtain ⟨k3, k4⟩ := k1.put (i := j) (x := x) (by simpa using hj) (h.hr.it x (List.mem_of_getElem? hx))
  rw [← swp_eq hx hy] at k3
  exact ⟨k3, k2.trans k4⟩
end Go.Proofs.YtaagllbcmgnbnaaGreatDoor
/- How two items stand: cmp.Compare at ints and texts, cmp.Or, Less; Len, Swap. -/
namespace Go.Proofs.YtaagllbcmgnbnaaGreatDoor
open Go.RowKit Go.Shelf
set_option linter.unusedVariables false
set_option maxRecDepth 100000

set_option maxHeartbeats 1000000 in
theorem cmpi_any (x y : Int) (w : World) : Calls Tryz.prog 275 #[.int .i64 x, .int .i64 y] w fun e w' => e = .returned (.int .i64 (Lib.compareInt x y)) ∧ w' = w := by
  have hn : ∀ (z : Int) (W : World), Calls Tryz.prog 277 #[.int .i64 z] W fun e w' => e = .returned (.bool false) ∧ w' = W := by
    intro z W
    go_enter Tryz.func277, Tryz.ntmps277
    go_wp2
    go_ret
    exact ⟨by simp, rfl⟩
  unfold Lib.compareInt
  by_cases h1 : x < y
  · rw [if_pos h1]
    go_enter Tryz.func275, Tryz.ntmps275
    go_wp2_with (go_at_call 277; refine (hn _ _).mono ?_; rintro e w' ⟨rfl, rfl⟩)
    go_ret
    exact ⟨rfl, rfl⟩
  · rw [if_neg h1]
    by_cases h2 : x > y
    · rw [if_pos h2]
      have h2' : y < x := h2
      go_enter Tryz.func275, Tryz.ntmps275
      go_wp2_with (go_at_call 277; refine (hn _ _).mono ?_; rintro e w' ⟨rfl, rfl⟩)
      go_ret
      exact ⟨rfl, rfl⟩
    · rw [if_neg h2]
      have h2' : ¬ y < x := h2
      go_enter Tryz.func275, Tryz.ntmps275
      go_wp2_with (go_at_call 277; refine (hn _ _).mono ?_; rintro e w' ⟨rfl, rfl⟩)
      go_ret
      exact ⟨rfl, rfl⟩
theorem bl_eq (a b : ByteArray) : Lib.compareBytes a.data.toList b.data.toList = if Op.bytesLess a.toList b.toList then -1 else if Op.bytesLess b.toList a.toList then 1 else 0 := by
  rw [cb_eq, ByteArray.toList_eq, ByteArray.toList_eq]
  generalize a.data.toList = x
  generalize b.data.toList = y
  cases h1 : Op.bytesLess x y
  · rw [if_neg (by decide)]
    cases h2 : Op.bytesLess y x
    · rw [if_pos (bl_total _ _ h1 h2)]; rfl
    · have : x ≠ y := fun e => by rw [e, bl_irrefl] at h2; cases h2
      rw [if_neg this]; rfl
  · rfl
set_option maxHeartbeats 1000000 in
theorem cmps_any (x y : ByteArray) (w : World) : Calls Tryz.prog 274 #[.string x, .string y] w fun e w' => e = .returned (.int .i64 (Lib.compareBytes x.data.toList y.data.toList)) ∧ w' = w := by
  have hn : ∀ (z : ByteArray) (W : World), Calls Tryz.prog 276 #[.string z] W fun e w' => e = .returned (.bool false) ∧ w' = W := by
    intro z W
    go_enter Tryz.func276, Tryz.ntmps276
    go_wp2
    go_ret
    exact ⟨by simp, rfl⟩
  rw [bl_eq]
  have hg : ∀ W : World, (binOp .gtr 9 (.string x) (.string y)).run Tryz.prog W = .ok (.bool (Op.bytesLess y.toList x.toList)) W := fun W => by
    have : (!(Op.bytesLess x.toList y.toList || x.toList == y.toList)) = Op.bytesLess y.toList x.toList := by
      generalize x.toList = a
      generalize y.toList = b
      cases h1 : Op.bytesLess a b
      · cases h2 : Op.bytesLess b a
        · rw [bl_total _ _ h1 h2]; simp
        · have : a ≠ b := fun e => by rw [e, bl_irrefl] at h2; cases h2
          simp [this]
      · cases h2 : Op.bytesLess b a
        · rfl
        · have := bl_trans _ _ _ h1 h2
          rw [bl_irrefl] at this
          cases this
    rw [show binOp .gtr 9 (.string x) (.string y) = pure (.bool !(Op.bytesLess x.toList y.toList || x.toList == y.toList)) by simp [binOp, Op.stringOp], this]
    rfl
  cases h1 : Op.bytesLess x.toList y.toList
  · cases h2 : Op.bytesLess y.toList x.toList
    · rw [h2] at hg
      go_enter Tryz.func274, Tryz.ntmps274
      go_wp2_with (go_at_call 276; refine (hn _ _).mono ?_; rintro e w' ⟨rfl, rfl⟩)
      go_ret
      exact ⟨rfl, rfl⟩
    · rw [h2] at hg
      go_enter Tryz.func274, Tryz.ntmps274
      go_wp2_with (go_at_call 276; refine (hn _ _).mono ?_; rintro e w' ⟨rfl, rfl⟩)
      go_ret
      exact ⟨rfl, rfl⟩
  · go_enter Tryz.func274, Tryz.ntmps274
    go_wp2_with (go_at_call 276; refine (hn _ _).mono ?_; rintro e w' ⟨rfl, rfl⟩)
    go_ret
    exact ⟨rfl, rfl⟩

set_option maxHeartbeats 1000000 in
/-- cmp.Or of three. -/
theorem or3_any (a b c : Int) (g : Nat) (w : World) (h0 : w.cell? ⟨g, 0, none⟩ = some (.int .i64 a)) (h1 : w.cell? ⟨g, 1, none⟩ = some (.int .i64 b)) (h2 : w.cell? ⟨g, 2, none⟩ = some (.int .i64 c)) :
    Calls Tryz.prog 273 #[.slice (some ⟨g, 0, none⟩) 3 3] w fun e w' => e = .returned (.int .i64 (orV a b c)) ∧ w' = w := by
  obtain ⟨T, hT⟩ : ∃ T, orV a b c = T := ⟨_, rfl⟩
  rw [hT]
  have HT := hidM hT
  clear hT
  go_enter Tryz.func273, Tryz.ntmps273
  go_wp2
  go_loopw [8] (fun i wr => ∃ k : Nat, k ≤ 3 ∧ i = .int .i64 k ∧ (1 ≤ k → a = 0) ∧ (2 ≤ k → b = 0) ∧ (3 ≤ k → c = 0) ∧ wr = w) (fun i _ => 3 - (intOf i).toNat)
  case atStart => exact ⟨0, by omega, rfl, by omega, by omega, by omega, rfl⟩
  case round =>
    obtain ⟨k, hk, rfl, ha, hb, hc, hw⟩ := hrel
    subst hw
    rcases (by omega : k = 0 ∨ k = 1 ∨ k = 2 ∨ k = 3) with rfl | rfl | rfl | rfl
    · by_cases e : a = 0
      · subst e
        go_wp2
        go_roundw
        case rel => exact ⟨1, by omega, rfl, by simp, by omega, by omega, by trivial⟩
        case measure => simp [intOf]
      · go_wp2
        go_ret
        exact ⟨by rw [← HT.out, orV, if_pos e]; rfl, rfl⟩
    · have ha := ha (by omega)
      subst ha
      by_cases e : b = 0
      · subst e
        go_wp2
        go_roundw
        case rel => exact ⟨2, by omega, rfl, by simp, by simp, by omega, by trivial⟩
        case measure => simp [intOf]
      · go_wp2
        go_ret
        exact ⟨by rw [← HT.out, orV, if_neg (by simp), if_pos e]; rfl, rfl⟩
    · have ha := ha (by omega)
      have hb := hb (by omega)
      subst ha hb
      by_cases e : c = 0
      · subst e
        go_wp2
        go_roundw
        case rel => exact ⟨3, by omega, rfl, by simp, by simp, by simp, by trivial⟩
        case measure => simp [intOf]
      · go_wp2
        go_ret
        exact ⟨by rw [← HT.out, orV, if_neg (by simp), if_neg (by simp)]; rfl, rfl⟩
    · have ha := ha (by omega)
      have hb := hb (by omega)
      have hc := hc (by omega)
      subst ha hb hc
      go_wp2
      go_ret
      exact ⟨by rw [← HT.out]; rfl, rfl⟩
end Go.Proofs.YtaagllbcmgnbnaaGreatDoor
/- The methods of the heap behind the interface value. -/
namespace Go.Proofs.YtaagllbcmgnbnaaGreatDoor
open Go.RowKit Go.Shelf
set_option linter.unusedVariables false
set_option maxRecDepth 100000

theorem na_len (F : Nat) (p : Addr) (w : World) : (nilAhead (F + 1) 101 (.pointer (some p)) "Len").run Tryz.prog w = .ok (some false) w := by kernel_rfl
theorem na_less (F : Nat) (p : Addr) (w : World) : (nilAhead (F + 1) 101 (.pointer (some p)) "Less").run Tryz.prog w = .ok (some false) w := by kernel_rfl
theorem na_swap (F : Nat) (p : Addr) (w : World) : (nilAhead (F + 1) 101 (.pointer (some p)) "Swap").run Tryz.prog w = .ok (some false) w := by kernel_rfl
theorem na_pop (F : Nat) (p : Addr) (w : World) : (nilAhead (F + 1) 101 (.pointer (some p)) "Pop").run Tryz.prog w = .ok (some false) w := by kernel_rfl
theorem me_pop (F : Nat) (p : Addr) (w : World) : (method (F + 1) 101 (.pointer (some p)) "Pop").run Tryz.prog w = .ok (278, .pointer (some p)) w := by kernel_rfl
theorem method_deref {P : Program} (F : Nat) (T E : TypeId) (p : Addr) (name : String) (f : FuncId) (w : World) (v : Value)
    (hm : (P.info? T).bind (fun i => (i.methods.find? (·.name == name)).map fun m => (m.path.toList, m.func)) = some ([], some (f, false))) (hu : P.underlying T = some (.pointer E))
    (hv : (loadVar E p).run P w = .ok v w) : (method (F + 1) T (.pointer (some p)) name).run P w = .ok (f, v) w := by
  cases hi : P.info? T with
  | none => rw [hi] at hm; cases hm
  | some i =>
    rw [hi] at hm
    cases hf : i.methods.find? (·.name == name) with
    | none => simp [hf] at hm
    | some m =>
      simp only [Option.bind_some, hf, Option.map_some, Option.some.injEq, Prod.mk.injEq] at hm
      obtain ⟨h1, h2⟩ := hm
      unfold method
      rw [Sem.run_bind, run_typeInfo w hi]
      simp only [Result.andThen, hf, h1, follow, h2]
      have he : m.path.isEmpty = true := by
        rw [Array.isEmpty_iff, ← Array.toList_eq_nil_iff]
        exact h1
      rw [he, Sem.run_bind]
      generalize (name.splitOn ".").getLastD name = nm
      have hk : Builtin.ssaWrapNilChk_ #[T] T #[.pointer (some p), strVal "", strVal nm] = pure (.pointer (some p)) := rfl
      have hr : (receiverAt T (.val (.pointer (some p))) false (some nm)).run P w = .ok v w := by
        unfold receiverAt
        rw [Sem.run_bind, run_underlying hu w]
        simp only [Result.andThen, Place.get, pure_bind]
        rw [hk]
        simp only [asAddr, pure_bind]
        exact hv
      rw [show (Sem.run P (pure (T, Place.val (.pointer (some p))) : Sem (TypeId × Place)) w) = .ok (T, Place.val (.pointer (some p))) w from rfl]
      show (Sem.run P (do let x ← receiverAt T (.val (.pointer (some p))) false (some nm); pure (f, x)) w) = _
      rw [Sem.run_bind, hr]
      rfl
theorem loadVar_plain {P : Program} (E D : TypeId) (p : Addr) (w : World) (v : Value) (hu : P.underlying E = some (.slice D)) (hc : w.cell? p = some v) : (loadVar E p).run P w = .ok v w := by
  have hagg : (isAgg E).run P w = .ok false w := by
    unfold isAgg
    rw [Sem.run_bind, run_underlying hu w]
    rfl
  simp [loadVar, Sem.run_bind, hagg, hc]
theorem me_len (F : Nat) (p : Addr) (w : World) (v : Value) (hc : w.cell? p = some v) : (method (F + 1) 101 (.pointer (some p)) "Len").run Tryz.prog w = .ok (270, v) w :=
  method_deref F _ _ p "Len" _ w v (by kernel_rfl) (by kernel_rfl) (loadVar_plain _ _ p w v Tryz.underlying71 hc)
theorem me_less (F : Nat) (p : Addr) (w : World) (v : Value) (hc : w.cell? p = some v) : (method (F + 1) 101 (.pointer (some p)) "Less").run Tryz.prog w = .ok (271, v) w :=
  method_deref F _ _ p "Less" _ w v (by kernel_rfl) (by kernel_rfl) (loadVar_plain _ _ p w v Tryz.underlying71 hc)
theorem me_swap (F : Nat) (p : Addr) (w : World) (v : Value) (hc : w.cell? p = some v) : (method (F + 1) 101 (.pointer (some p)) "Swap").run Tryz.prog w = .ok (272, v) w :=
  method_deref F _ _ p "Swap" _ w v (by kernel_rfl) (by kernel_rfl) (loadVar_plain _ _ p w v Tryz.underlying71 hc)
end Go.Proofs.YtaagllbcmgnbnaaGreatDoor
/- Len and Swap of the heap. -/
namespace Go.Proofs.YtaagllbcmgnbnaaGreatDoor
open Go.RowKit Go.Shelf
set_option linter.unusedVariables false
set_option maxRecDepth 100000

set_option maxHeartbeats 1000000 in
theorem llen_any (a : Option Addr) (n c : Nat) (w : World) : Calls Tryz.prog 270 #[.slice a n c] w fun e w' => e = .returned (.int .i64 n) ∧ w' = w := by
  go_enter Tryz.func270, Tryz.ntmps270
  go_wp2
  go_ret
  exact ⟨rfl, rfl⟩
set_option maxHeartbeats 2000000 in
theorem lswap_any (w0 w : World) (hb g n cap : Nat) (H : List Hi) (h : HP w0 w hb (.slice (some ⟨g, 0, none⟩) n cap) H) (hn : n = H.length) (hcap : n ≤ 1000000) (i j : Nat) (x y : Hi) (hx : H[i]? = some x) (hy : H[j]? = some y) :
    Calls Tryz.prog 272 #[.slice (some ⟨g, 0, none⟩) n cap, .int .i64 i, .int .i64 j] w fun e w' => e = .returned (.tuple #[]) ∧ HP w0 w' hb (.slice (some ⟨g, 0, none⟩) n cap) (swp H i j) ∧ Kp w w' := by
  have hi : i < n := by rw [hn]; exact (List.getElem?_eq_some_iff.1 hx).1
  have hj : j < n := by rw [hn]; exact (List.getElem?_eq_some_iff.1 hy).1
  have HS := hidM (h.swap hx hy)
  have HXY := hidM (show i = j → x = y from fun e => by subst e; rw [hx] at hy; injection hy)
  have FZ := fun k => World.ownsRow.frozenAt (n := H.length) (g := g) (cap := cap) (by have := h.hr.row; rw [hn] at this; exact this) k
  have f0 := FZ (i * 2)
  have f1 := FZ (i * 2 + 1)
  have f2 := FZ (j * 2)
  have f3 := FZ (j * 2 + 1)
  clear FZ
  rcases ownH_row h.hr.row with ⟨e, -⟩ | ⟨g', cap', cur, e, -, -, -, -, hc⟩
  · cases e
  injection e with e1
  injection e1 with e1
  injection e1 with e1
  subst e1
  obtain ⟨a0, a1⟩ := hc i x hx
  obtain ⟨b0, b1⟩ := hc j y hy
  obtain ⟨⟨xa, xl, xc⟩, xr, xp⟩ := x
  obtain ⟨⟨ya, yl, yc⟩, yr, yp⟩ := y
  simp only [slV] at a0 a1 b0 b1 HS
  clear hc hx hy h
  have hni : (i : Int) < (n : Int) := by omega
  have hnj : (j : Int) < (n : Int) := by omega
  have HN := hidM hn
  clear hn
  by_cases hij : i = j
  · subst hij
    have hxy := HXY.out rfl
    injection hxy with e1 e2
    injection e1 with e3 e4
    injection e4 with e4 e5
    injection e2 with e6 e7
    subst e3 e4 e5 e6 e7
    go_enter Tryz.func272, Tryz.ntmps272
    go_wp2
    go_region
    go_end0
    exact ⟨rfl, HS.out.1.drew 1, HS.out.2.trans (Kp.drew _ 1)⟩
  · have d1 : ¬ i * 2 = j * 2 := by omega
    have d2 : ¬ i * 2 = j * 2 + 1 := by omega
    have d3 : ¬ i * 2 + 1 = j * 2 := by omega
    have d4 : ¬ i * 2 + 1 = j * 2 + 1 := by omega
    have d5 : ¬ j * 2 = i * 2 := by omega
    have d6 : ¬ j * 2 + 1 = i * 2 := by omega
    have d7 : ¬ j * 2 = i * 2 + 1 := by omega
    have d8 : ¬ j * 2 + 1 = i * 2 + 1 := by omega
    go_enter Tryz.func272, Tryz.ntmps272
    go_wp2
    go_region
    go_end0
    exact ⟨rfl, HS.out.1.drew 1, HS.out.2.trans (Kp.drew _ 1)⟩
end Go.Proofs.YtaagllbcmgnbnaaGreatDoor
/- Less of the heap. -/
namespace Go.Proofs.YtaagllbcmgnbnaaGreatDoor
open Go.RowKit Go.Shelf
set_option linter.unusedVariables false
set_option maxRecDepth 100000

/-- The first key of an item as it lies. -/
theorem item_key {w0 w : World} {x : Hi} (h : ItOk w0 x) (hb : Below w0.heap.size w0 w) (h0 : x.2.1 ≠ []) : ∃ b o n c, x.1 = (some ⟨b, o, none⟩, n + 1, c) ∧ n + 1 = x.2.1.length ∧ n + 1 ≤ c ∧ b < w0.heap.size ∧ w.cell? ⟨b, o, none⟩ = some (.int .i64 (hkey x).1) ∧ w.cell? ⟨b, o + 1, none⟩ = some (.string (hkey x).2) := by
  obtain ⟨⟨xa, xl, xc⟩, xr, xp⟩ := x
  obtain ⟨a, cap, e, hs⟩ := h.ws.below hb
  have hc := h.cap
  simp only at e hc h0 hs ⊢
  injection e with e1 e2 e3
  subst e1 e2 e3
  cases xr with
  | nil => exact absurd rfl h0
  | cons r t =>
    rcases hs with hs | ⟨b, off, rfl, hlt, hat⟩
    · cases hs
    · obtain ⟨c0, c1, -⟩ := hat 0 r rfl
      have hlt0 : b < w0.heap.size := by
        rcases h.ws with ⟨a', cap', e', hs'⟩
        injection e' with e1 e2 e3
        rcases hs' with hs' | ⟨b', off', e4, hlt', -⟩
        · cases hs'
        · rw [e4] at e1
          injection e1 with e1
          injection e1 with e1
          subst e1
          exact hlt'
      exact ⟨b, off, t.length, xc, rfl, rfl, hc, hlt0, by simpa [hkey] using c0, by simpa [hkey] using c1⟩
theorem two_new (w : World) (a0 a1 b0 b1 : Value) (T : TypeId) : (((w.alloc (.cells #[a0, a1] T)).alloc (.cells #[b0, b1] T)).drew.cell? ⟨w.heap.size, 0, none⟩ = some a0 ∧ ((w.alloc (.cells #[a0, a1] T)).alloc (.cells #[b0, b1] T)).drew.cell? ⟨w.heap.size, 1, none⟩ = some a1) ∧
    (((w.alloc (.cells #[a0, a1] T)).alloc (.cells #[b0, b1] T)).drew.cell? ⟨w.heap.size + 1, 0, none⟩ = some b0 ∧ ((w.alloc (.cells #[a0, a1] T)).alloc (.cells #[b0, b1] T)).drew.cell? ⟨w.heap.size + 1, 1, none⟩ = some b1) ∧
    Below w.heap.size w ((w.alloc (.cells #[a0, a1] T)).alloc (.cells #[b0, b1] T)).drew := by
  have h1 := heap_alloc_old (w.alloc (.cells #[a0, a1] T)) (.cells #[b0, b1] T) (r := w.heap.size) (by show w.heap.size < (w.heap.push _).size; simp)
  rw [heap_alloc_new] at h1
  have h2 := heap_alloc_new (w.alloc (.cells #[a0, a1] T)) (.cells #[b0, b1] T)
  rw [show (w.alloc (.cells #[a0, a1] T)).heap.size = w.heap.size + 1 by simp] at h2
  have h1' : ((w.alloc (.cells #[a0, a1] T)).alloc (.cells #[b0, b1] T)).drew.heap[w.heap.size]? = _ := h1
  have h2' : ((w.alloc (.cells #[a0, a1] T)).alloc (.cells #[b0, b1] T)).drew.heap[w.heap.size + 1]? = _ := h2
  refine ⟨⟨?_, ?_⟩, ⟨?_, ?_⟩, ?_⟩
  · simp only [World.cell?, h1']; rfl
  · simp only [World.cell?, h1']; rfl
  · simp only [World.cell?, h2']; rfl
  · simp only [World.cell?, h2']; rfl
  · exact below_drewN ((nxt ((Below.refl _ _).alloc (Nat.le_refl _) _) ((Below.refl _ _).alloc (Nat.le_refl _) _))) 1
theorem three_new (w : World) (a0 a1 a2 : Value) (T : TypeId) : (w.alloc (.cells #[a0, a1, a2] T)).cell? ⟨w.heap.size, 0, none⟩ = some a0 ∧ (w.alloc (.cells #[a0, a1, a2] T)).cell? ⟨w.heap.size, 1, none⟩ = some a1 ∧ (w.alloc (.cells #[a0, a1, a2] T)).cell? ⟨w.heap.size, 2, none⟩ = some a2 := by
  have h1 := heap_alloc_new w (.cells #[a0, a1, a2] T)
  refine ⟨?_, ?_, ?_⟩ <;> (simp only [World.cell?, h1]; rfl)
set_option maxHeartbeats 4000000 in
theorem lless_any (w0 w : World) (g n cap : Nat) (H : List Hi) (h : HR w0 w (.slice (some ⟨g, 0, none⟩) n cap) H) (hn : n = H.length) (hcap : n ≤ 1000000) (i j : Nat) (x y : Hi) (hx : H[i]? = some x) (hy : H[j]? = some y) (hx0 : x.2.1 ≠ []) (hy0 : y.2.1 ≠ []) :
    Calls Tryz.prog 271 #[.slice (some ⟨g, 0, none⟩) n cap, .int .i64 i, .int .i64 j] w fun e w' => e = .returned (.bool (ltH x y)) ∧ Below w.heap.size w w' := by
  have hi : i < n := by rw [hn]; exact (List.getElem?_eq_some_iff.1 hx).1
  have hj : j < n := by rw [hn]; exact (List.getElem?_eq_some_iff.1 hy).1
  obtain ⟨xb, xo, xn, xc, ex, -, -, -, kx0, kx1⟩ := item_key (h.it x (List.mem_of_getElem? hx)) h.bel hx0
  obtain ⟨yb, yo, yn, yc, ey, -, -, -, ky0, ky1⟩ := item_key (h.it y (List.mem_of_getElem? hy)) h.bel hy0
  rcases ownH_row h.row with ⟨e, -⟩ | ⟨g', cap', cur, e, -, -, -, -, hc⟩
  · cases e
  injection e with e1 e2 e3
  injection e1 with e1
  injection e1 with e1
  subst e1
  clear e2 e3
  obtain ⟨a0, a1⟩ := hc i x hx
  obtain ⟨b0, b1⟩ := hc j y hy
  have HL := hidM (less_told x y)
  rw [ex] at a0
  rw [ey] at b0
  simp only [slV] at a0 b0
  obtain ⟨T, hT⟩ : ∃ T, ltH x y = T := ⟨_, rfl⟩
  rw [hT] at HL ⊢
  generalize hkey x = p at HL kx0 kx1
  generalize hkey y = q at HL ky0 ky1
  obtain ⟨pa, pb⟩ := p
  obtain ⟨qa, qb⟩ := q
  generalize x.2.2 = px at HL a1
  generalize y.2.2 = py at HL b1
  simp only at HL kx0 kx1 ky0 ky1
  clear hc hx hy h hx0 hy0 hT ex ey
  have hgl := block_lt_of_cell a0
  have hxl := block_lt_of_cell kx0
  have hyl := block_lt_of_cell ky0
  simp only at hgl hxl hyl
  have hni : (i : Int) < (n : Int) := by omega
  have hnj : (j : Int) < (n : Int) := by omega
  have HN := hidM hn
  clear hn
  go_enter Tryz.func271, Tryz.ntmps271
  go_wp2
  go_cut [7, 8] from 9 to 24 (fun va vb wx => ∃ A B, va = .pointer (some ⟨A, 0, none⟩) ∧ vb = .pointer (some ⟨B, 0, none⟩) ∧ (wx.cell? ⟨A, 0, none⟩ = some (.int .i64 pa) ∧ wx.cell? ⟨A, 1, none⟩ = some (.string pb)) ∧ (wx.cell? ⟨B, 0, none⟩ = some (.int .i64 qa) ∧ wx.cell? ⟨B, 1, none⟩ = some (.string qb)) ∧ Below w.heap.size w wx)
  case first =>
    go_region
    all_goals (go_wp2_with fail; go_meet)
    all_goals first
      | exact ⟨_, _, rfl, rfl, (two_new w _ _ _ _ _).1, (two_new w _ _ _ _ _).2.1, (two_new w _ _ _ _ _).2.2⟩
      | exact ⟨_, _, rfl, rfl, (two_new w _ _ _ _ _).2.1, (two_new w _ _ _ _ _).1, (two_new w _ _ _ _ _).2.2⟩
  case rest =>
    obtain ⟨A, B, rfl, rfl, ⟨p0, p1⟩, ⟨q0, q1⟩, hb1⟩ := hcut
    rename World => W1
    have hs1 := hb1.size
    have a0 := (hb1.cell (p := ⟨g, _, none⟩) hgl).trans a0
    have a1 := (hb1.cell (p := ⟨g, _, none⟩) hgl).trans a1
    have b0 := (hb1.cell (p := ⟨g, _, none⟩) hgl).trans b0
    have b1 := (hb1.cell (p := ⟨g, _, none⟩) hgl).trans b1
    have HB := hidM hb1
    clear hb1 hgl hxl hyl kx0 kx1 ky0 ky1
    go_wp2
    refine wp_region_still_tail 21 (Checked.mixed Tryz.checked) (by kernel_rfl) ?_
    simp only [List.take_succ_cons, List.take_zero, List.drop_succ_cons, List.drop_zero]
    repeat still_step
    still_call (cmpint_any _ _ _)
    repeat still_step
    still_call (cmps_any _ _ _)
    repeat still_step
    still_call (cmpi_any _ _ _)
    refine wpStill_nil ?_
    change wpList _ _ _ _ _ W1.drew
    have C3 := three_new W1.drew
    have hBX := (nxt HB.out (below_drewN (Below.refl _ _) 1)).trans (Below.refl _ _)
    go_wp2_with (go_at_call 273; refine (or3_any _ _ _ _ _ (C3 _ _ _ _).1 (C3 _ _ _ _).2.1 (C3 _ _ _ _).2.2).mono ?_; rintro e w' ⟨rfl, rfl⟩)
    go_ret
    exact ⟨by rw [← HL.out]; rfl, (HB.out.drew).alloc (by simpa using hs1) _⟩
end Go.Proofs.YtaagllbcmgnbnaaGreatDoor
/- container/heap: down. -/
namespace Go.Proofs.YtaagllbcmgnbnaaGreatDoor
open Go.RowKit Go.Shelf
set_option linter.unusedVariables false
set_option maxRecDepth 100000

/-- The heap behind its interface value. -/
abbrev hpV (hb : Nat) : Value := .iface 101 (.pointer (some ⟨hb, 0, none⟩))
theorem drop_swp {α : Type} (l : List α) (i j m : Nat) (hi : i < m) (hj : j < m) : (swp l i j).drop m = l.drop m := by
  unfold swp
  split
  · rw [List.drop_set, if_pos hj, List.drop_set, if_pos hi]
  · rfl
theorem perm_pre {α : Type} {l l' : List α} {m : Nat} (p : l'.Perm l) (h : l'.drop m = l.drop m) : (l'.take m).Perm (l.take m) := by
  rw [← List.take_append_drop m l', ← List.take_append_drop m l, h] at p
  exact (List.perm_append_right_iff _).1 p
theorem pre_mem {α : Type} {l l' : List α} {m : Nat} (p : l'.Perm l) (h : l'.drop m = l.drop m) {P : α → Prop} (hP : ∀ (k : Nat) x, k < m → l[k]? = some x → P x) : ∀ (k : Nat) x, k < m → l'[k]? = some x → P x := fun k x hk hx => by
  have h1 : x ∈ l'.take m := by
    rw [← List.getElem?_take_of_lt hk] at hx
    exact List.mem_of_getElem? hx
  obtain ⟨q, hq⟩ := List.getElem?_of_mem ((perm_pre p h).mem_iff.1 h1)
  have hqm : q < m := by
    have := (List.getElem?_eq_some_iff.1 hq).1
    rw [List.length_take] at this
    omega
  rw [List.getElem?_take_of_lt hqm] at hq
  exact hP q x hqm hq
/-- A bool is told. -/
def RetB (e : Ending) : Prop := ∃ b, e = .returned (.bool b)
theorem RetB.mk (b : Bool) : RetB (.returned (.bool b)) := ⟨b, rfl⟩
set_option maxHeartbeats 4000000 in
theorem down_any (w0 w : World) (hb g n cap : Nat) (H : List Hi) (h : HP w0 w hb (.slice (some ⟨g, 0, none⟩) n cap) H) (hn : n = H.length) (hcap : n ≤ 1000000) (i0 m : Nat) (hm : m ≤ n) (hi0 : i0 ≤ 1000000) (hne : ∀ k x, k < m → H[k]? = some x → x.2.1 ≠ []) (hhp : IsHp ltH H m (i0 + 1)) :
    Calls Tryz.prog 84 #[hpV hb, .int .i64 i0, .int .i64 m] w fun e w' => RetB e ∧ ∃ H', HP w0 w' hb (.slice (some ⟨g, 0, none⟩) n cap) H' ∧ H'.Perm H ∧ H'.drop m = H.drop m ∧ IsHp ltH H' m i0 ∧ Kp w w' := by
  have n1 := fun F => na_less F ⟨hb, 0, none⟩
  have n2 := fun F => na_swap F ⟨hb, 0, none⟩
  have m1 := fun F W h => me_less F ⟨hb, 0, none⟩ W (.slice (some ⟨g, 0, none⟩) n cap) h
  have m2 := fun F W h => me_swap F ⟨hb, 0, none⟩ W (.slice (some ⟨g, 0, none⟩) n cap) h
  have HH := hidM h
  have HN := hidM hn
  have HST := hidM (Hole.start hhp)
  have HNE := hidM hne
  clear h hn hhp hne
  go_enter Tryz.func84, Tryz.ntmps84
  go_wp2
  go_loopw [7] (fun i wr => ∃ (k : Nat) (H1 : List Hi), i = .int .i64 k ∧ i0 ≤ k ∧ k ≤ 1000000 ∧ wr.cell? ⟨hb, 0, none⟩ = some (.slice (some ⟨g, 0, none⟩) n cap) ∧ Hid (HP w0 wr hb (.slice (some ⟨g, 0, none⟩) n cap) H1 ∧ H1.Perm H ∧ H1.drop m = H.drop m ∧ Hole ltH H1 m i0 k ∧ Kp w wr)) (fun i _ => m - (intOf i).toNat)
  case atStart => exact ⟨i0, H, rfl, Nat.le_refl _, hi0, HH.out.cell, hidM ⟨HH.out, List.Perm.refl _, rfl, HST.out, Kp.refl _⟩⟩
  case round =>
    obtain ⟨k, H1, rfl, hik, hk6, hc0, HR1⟩ := hrel
    by_cases hlf : 2 * k + 1 < m
    · obtain ⟨HPa, PMa, DRa, HOa, KPa⟩ := HR1.out
      have hl1 : H1.length = n := by rw [PMa.length_eq, ← HN.out]
      have hneK := pre_mem PMa DRa HNE.out
      obtain ⟨xk, hxk⟩ := getSome (l := H1) (i := k) (by omega)
      obtain ⟨x1, hx1⟩ := getSome (l := H1) (i := 2 * k + 1) (by omega)
      have hkm : k < m := by omega
      -- which child: j, with what it needs
      have STEP : ∀ (j : Nat) (xj : Hi), H1[j]? = some xj → Least ltH H1 m k j → ltH xj xk = true → Hole ltH (swp H1 k j) m i0 j ∧ (swp H1 k j).Perm H ∧ (swp H1 k j).drop m = H.drop m := fun j xj hj hL hlt => by
        have hjm := hL.2.1
        refine ⟨HOa.step ordH hik hL (fun a b ha hb => by rw [hxk] at ha; rw [hj] at hb; injection ha with ha; injection hb with hb; rw [← ha, ← hb]; exact hlt) (by omega), (swp_perm (by omega) (by omega)).trans PMa, by rw [drop_swp _ _ _ _ hkm hjm]; exact DRa⟩
      have STOP : ∀ (j : Nat) (xj : Hi), H1[j]? = some xj → Least ltH H1 m k j → ltH xj xk = false → IsHp ltH H1 m i0 := fun j xj hj hL hlt =>
        HOa.stop ordH hL (fun a b ha hb => by rw [hxk] at ha; rw [hj] at hb; injection ha with ha; injection hb with hb; rw [← ha, ← hb]; exact hlt) (by omega)
      have LESS : ∀ (W : World) (p q : Nat) (xp xq : Hi), Below wr.heap.size wr W → p < m → q < m → H1[p]? = some xp → H1[q]? = some xq → Calls Tryz.prog 271 #[.slice (some ⟨g, 0, none⟩) n cap, .int .i64 (p : Int), .int .i64 (q : Int)] W fun e w' => e = .returned (.bool (ltH xp xq)) ∧ Below W.heap.size W w' := fun W p q xp xq hW hp hq hxp hxq =>
        lless_any w0 W g n cap H1 (HPa.below hW).hr hl1.symm hcap p q xp xq hxp hxq (hneK p xp hp hxp) (hneK q xq hq hxq)
      have SWAP : ∀ (W : World) (j : Nat) (xj : Hi), Below wr.heap.size wr W → H1[j]? = some xj → Calls Tryz.prog 272 #[.slice (some ⟨g, 0, none⟩) n cap, .int .i64 (k : Int), .int .i64 (j : Int)] W fun e w' => e = .returned (.tuple #[]) ∧ HP w0 w' hb (.slice (some ⟨g, 0, none⟩) n cap) (swp H1 k j) ∧ Kp W w' := fun W j xj hW hj =>
        lswap_any w0 W hb g n cap H1 (HPa.below hW) hl1.symm hcap k j xk xj hxk hj
      have CELL : ∀ W, Below wr.heap.size wr W → W.cell? ⟨hb, 0, none⟩ = some (.slice (some ⟨g, 0, none⟩) n cap) := fun W hW => (HPa.below hW).cell
      have STEP := hidM STEP
      have STOP := hidM STOP
      have LESS := hidM LESS
      have SWAP := hidM SWAP
      have CELL := hidM CELL
      have KPA := hidM KPa
      have HPA := hidM HPa
      have PMA := hidM PMa
      have DRA := hidM DRa
      clear HPa PMa DRa HOa KPa hneK HR1
      by_cases h2 : 2 * k + 2 < m
      · obtain ⟨x2, hx2⟩ := getSome (l := H1) (i := 2 * k + 2) (by omega)
        have L1 := hidM (fun W hW => LESS.out W (2 * k + 2) (2 * k + 1) x2 x1 hW h2 hlf hx2 hx1)
        rw [show (((2 * k + 2 : Nat)) : Int) = 2 * (k : Int) + 1 + 1 by omega, show (((2 * k + 1 : Nat)) : Int) = 2 * (k : Int) + 1 by omega] at L1
        have h2' : 2 * (k : Int) + 1 + 1 < (m : Int) := by omega
        cases hl : ltH x2 x1 with
        | true =>
          rw [hl] at L1
          have hLe := hidM (Least.two ordH h2 (fun a b ha hb => by rw [hx1] at ha; rw [hx2] at hb; injection ha with ha; injection hb with hb; rw [← ha, ← hb]; exact hl) ltH_irrefl)
          have L2 := hidM (fun W hW => LESS.out W (2 * k + 2) k x2 xk hW h2 hkm hx2 hxk)
          rw [show (((2 * k + 2 : Nat)) : Int) = 2 * (k : Int) + 1 + 1 by omega] at L2
          cases hl2 : ltH x2 xk with
          | true =>
            rw [hl2] at L2
            have SW := hidM (fun W hW => SWAP.out W (2 * k + 2) x2 hW hx2)
            rw [show (((2 * k + 2 : Nat)) : Int) = 2 * (k : Int) + 1 + 1 by omega] at SW
            have HE := hidM (STEP.out (2 * k + 2) x2 hx2 hLe.out hl2)
            go_wp2_with (first
              | (go_at_call 271; refine (L1.out _ (Below.refl _ _)).mono ?_; rintro e W1 ⟨rfl, hb1⟩; have c1 := CELL.out _ hb1; clear L1)
              | (go_at_call 271; refine (L2.out _ hb1).mono ?_; rintro e W2 ⟨rfl, hb2⟩; have hb12 := nxt hb1 hb2; have c2 := CELL.out _ hb12; clear L2)
              | (go_at_call 272; refine (SW.out _ hb12).mono ?_; rintro e W3 ⟨rfl, hp3, hk3⟩))
            go_roundw
            case rel => exact ⟨2 * k + 2, swp H1 k (2 * k + 2), by congr 1 <;> omega, by omega, by omega, hp3.cell, hidM ⟨hp3, HE.out.2.1, HE.out.2.2, HE.out.1, KPA.out.trans ((Kp.below hb12).trans hk3)⟩⟩
            case measure => simp [intOf]; omega
          | false =>
            rw [hl2] at L2
            have HE := hidM (STOP.out (2 * k + 2) x2 hx2 hLe.out hl2)
            go_wp2_with (first
              | (go_at_call 271; refine (L1.out _ (Below.refl _ _)).mono ?_; rintro e W1 ⟨rfl, hb1⟩; have c1 := CELL.out _ hb1; clear L1)
              | (go_at_call 271; refine (L2.out _ hb1).mono ?_; rintro e W2 ⟨rfl, hb2⟩; have hb12 := nxt hb1 hb2; have c2 := CELL.out _ hb12; clear L2))
            go_ret
            exact ⟨RetB.mk _, H1, HPA.out.below hb12, PMA.out, DRA.out, HE.out, KPA.out.trans (Kp.below hb12)⟩
        | false =>
          rw [hl] at L1
          have hLe := hidM (Least.one (lt := ltH) (l := H1) (n := m) (i := k) hlf (fun a b _ ha hb => by rw [hx1] at ha; rw [hx2] at hb; injection ha with ha; injection hb with hb; rw [← ha, ← hb]; exact hl) ltH_irrefl)
          have L2 := hidM (fun W hW => LESS.out W (2 * k + 1) k x1 xk hW hlf hkm hx1 hxk)
          rw [show (((2 * k + 1 : Nat)) : Int) = 2 * (k : Int) + 1 by omega] at L2
          cases hl2 : ltH x1 xk with
          | true =>
            rw [hl2] at L2
            have SW := hidM (fun W hW => SWAP.out W (2 * k + 1) x1 hW hx1)
            rw [show (((2 * k + 1 : Nat)) : Int) = 2 * (k : Int) + 1 by omega] at SW
            have HE := hidM (STEP.out (2 * k + 1) x1 hx1 hLe.out hl2)
            go_wp2_with (first
              | (go_at_call 271; refine (L1.out _ (Below.refl _ _)).mono ?_; rintro e W1 ⟨rfl, hb1⟩; have c1 := CELL.out _ hb1; clear L1)
              | (go_at_call 271; refine (L2.out _ hb1).mono ?_; rintro e W2 ⟨rfl, hb2⟩; have hb12 := nxt hb1 hb2; have c2 := CELL.out _ hb12; clear L2)
              | (go_at_call 272; refine (SW.out _ hb12).mono ?_; rintro e W3 ⟨rfl, hp3, hk3⟩))
            go_roundw
            case rel => exact ⟨2 * k + 1, swp H1 k (2 * k + 1), by congr 1 <;> omega, by omega, by omega, hp3.cell, hidM ⟨hp3, HE.out.2.1, HE.out.2.2, HE.out.1, KPA.out.trans ((Kp.below hb12).trans hk3)⟩⟩
            case measure => simp [intOf]; omega
          | false =>
            rw [hl2] at L2
            have HE := hidM (STOP.out (2 * k + 1) x1 hx1 hLe.out hl2)
            go_wp2_with (first
              | (go_at_call 271; refine (L1.out _ (Below.refl _ _)).mono ?_; rintro e W1 ⟨rfl, hb1⟩; have c1 := CELL.out _ hb1; clear L1)
              | (go_at_call 271; refine (L2.out _ hb1).mono ?_; rintro e W2 ⟨rfl, hb2⟩; have hb12 := nxt hb1 hb2; have c2 := CELL.out _ hb12; clear L2))
            go_ret
            exact ⟨RetB.mk _, H1, HPA.out.below hb12, PMA.out, DRA.out, HE.out, KPA.out.trans (Kp.below hb12)⟩
      · have h2' : ¬ (2 * (k : Int) + 1 + 1 < (m : Int)) := by omega
        have h2'' : (m : Int) ≤ 2 * (k : Int) + 1 + 1 := by omega
        have hLe := hidM (Least.one (lt := ltH) (l := H1) (n := m) (i := k) hlf (fun a b h _ _ => absurd h h2) ltH_irrefl)
        have L2 := hidM (fun W hW => LESS.out W (2 * k + 1) k x1 xk hW hlf hkm hx1 hxk)
        rw [show (((2 * k + 1 : Nat)) : Int) = 2 * (k : Int) + 1 by omega] at L2
        cases hl2 : ltH x1 xk with
        | true =>
          rw [hl2] at L2
          have SW := hidM (fun W hW => SWAP.out W (2 * k + 1) x1 hW hx1)
          rw [show (((2 * k + 1 : Nat)) : Int) = 2 * (k : Int) + 1 by omega] at SW
          have HE := hidM (STEP.out (2 * k + 1) x1 hx1 hLe.out hl2)
          go_wp2_with (first
            | (go_at_call 271; refine (L2.out _ (Below.refl _ _)).mono ?_; rintro e W2 ⟨rfl, hb12⟩; have c2 := CELL.out _ hb12; clear L2)
            | (go_at_call 272; refine (SW.out _ hb12).mono ?_; rintro e W3 ⟨rfl, hp3, hk3⟩))
          go_roundw
          case rel => exact ⟨2 * k + 1, swp H1 k (2 * k + 1), by congr 1 <;> omega, by omega, by omega, hp3.cell, hidM ⟨hp3, HE.out.2.1, HE.out.2.2, HE.out.1, KPA.out.trans ((Kp.below hb12).trans hk3)⟩⟩
          case measure => simp [intOf]; omega
        | false =>
          rw [hl2] at L2
          have HE := hidM (STOP.out (2 * k + 1) x1 hx1 hLe.out hl2)
          go_wp2_with (first
            | (go_at_call 271; refine (L2.out _ (Below.refl _ _)).mono ?_; rintro e W2 ⟨rfl, hb12⟩; have c2 := CELL.out _ hb12; clear L2))
          go_ret
          exact ⟨RetB.mk _, H1, HPA.out.below hb12, PMA.out, DRA.out, HE.out, KPA.out.trans (Kp.below hb12)⟩
    · have hmj : m ≤ 2 * k + 1 := by omega
      obtain ⟨HPa, PMa, DRa, HOa, KPa⟩ := HR1.out
      have HL := hidM (HOa.leaf hmj)
      have HF := hidM (⟨HPa, PMa, DRa, HL.out, KPa⟩ : HP w0 wr hb (.slice (some ⟨g, 0, none⟩) n cap) H1 ∧ H1.Perm H ∧ H1.drop m = H.drop m ∧ IsHp ltH H1 m i0 ∧ Kp w wr)
      clear HPa PMa DRa HOa KPa HL HR1
      go_wp2
      go_ret
      exact ⟨RetB.mk _, H1, HF.out⟩
end Go.Proofs.YtaagllbcmgnbnaaGreatDoor
/- container/heap: Init, Fix at the root, Pop; the heap's own Pop and pass. -/
namespace Go.Proofs.YtaagllbcmgnbnaaGreatDoor
open Go.RowKit Go.Shelf
set_option linter.unusedVariables false
set_option maxRecDepth 100000

set_option maxHeartbeats 4000000 in
theorem init_any (w0 w : World) (hb : Nat) (v : Value) (H : List Hi) (h : HP w0 w hb v H) (hcap : H.length ≤ 1000000) (hne : ∀ x ∈ H, x.2.1 ≠ []) :
    Calls Tryz.prog 53 #[hpV hb] w fun e w' => e = .returned (.tuple #[]) ∧ ∃ H', HP w0 w' hb v H' ∧ H'.Perm H ∧ IsHp ltH H' H'.length 0 ∧ Kp w w' := by
  have n1 := fun F => na_len F ⟨hb, 0, none⟩
  have m1 := fun F W h => me_len F ⟨hb, 0, none⟩ W v h
  have c0 := h.cell
  obtain ⟨a, n, cap, rfl, hn, hsh⟩ : ∃ a n cap, v = .slice a n cap ∧ n = H.length ∧ (0 < n → ∃ g, a = some ⟨g, 0, none⟩) := by
    rcases ownH_row h.hr.row with ⟨rfl, rfl⟩ | ⟨g, cap, cur, rfl, -⟩
    · exact ⟨none, 0, 0, rfl, rfl, fun h => absurd h (by omega)⟩
    · exact ⟨_, _, cap, rfl, rfl, fun _ => ⟨g, rfl⟩⟩
  have HH := hidM h
  have HN := hidM hn
  have HNE := hidM hne
  have hn6 : n ≤ 1000000 := by omega
  obtain ⟨q0, hq0⟩ : ∃ q0, q0 = n / 2 := ⟨_, rfl⟩
  have e1 : (n : Int) / 2 = (q0 : Int) := by omega
  have e2 : Int.tdiv (n : Int) 2 = (q0 : Int) := by rw [Int.tdiv_eq_ediv_of_nonneg (by omega)]; omega
  have HQ := hidM hq0
  have hq6 : q0 ≤ 1000000 := by omega
  clear h hne hn hcap hq0
  go_enter Tryz.func53, Tryz.ntmps53
  go_wp2_with (go_at_call 270; refine (llen_any _ _ _ _).mono ?_; rintro e W1 ⟨rfl, hw1⟩; subst hw1)
  go_loopw [3] (fun i wr => ∃ (q : Nat) (H1 : List Hi), i = .int .i64 ((q : Int) - 1) ∧ q ≤ q0 ∧ Hid (HP w0 wr hb (.slice a n cap) H1 ∧ H1.Perm H ∧ IsHp ltH H1 n q ∧ Kp W1 wr)) (fun i _ => (intOf i + 1).toNat)
  case atStart => exact ⟨q0, H, rfl, Nat.le_refl _, hidM ⟨HH.out, List.Perm.refl _, IsHp.half _ _ _ _ (by have := HQ.out; omega), Kp.refl _⟩⟩
  case round =>
    obtain ⟨q, H1, rfl, hq, HR1⟩ := hrel
    by_cases hq1 : 1 ≤ q
    · obtain ⟨p, rfl⟩ : ∃ p, q = p + 1 := ⟨q - 1, by omega⟩
      obtain ⟨HPa, PMa, IHa, KPa⟩ := HR1.out
      have hl1 : H1.length = n := by rw [PMa.length_eq, ← HN.out]
      obtain ⟨g, rfl⟩ := hsh (by have := HQ.out; omega)
      have HD := hidM (down_any w0 wr hb g n cap H1 HPa hl1.symm hn6 p n (Nat.le_refl _) (by omega) (fun k x _ hx => HNE.out x (PMa.mem_iff.1 (List.mem_of_getElem? hx))) IHa)
      have KPA := hidM KPa
      have PMA := hidM PMa
      clear HPa PMa IHa KPa HR1 hsh
      have ep : (((p + 1 : Nat)) : Int) - 1 = (p : Int) := by omega
      rw [ep]
      go_wp2_with (go_at_call 84; refine HD.out.mono ?_; rintro e W2 ⟨⟨b, rfl⟩, H2, hp2, hpm2, -, hi2, hk2⟩)
      go_roundw
      case rel => exact ⟨p, H2, rfl, by omega, hidM ⟨hp2, hpm2.trans PMA.out, hi2, KPA.out.trans hk2⟩⟩
      case measure => simp [intOf]
    · obtain rfl : q = 0 := by omega
      obtain ⟨HPa, PMa, IHa, KPa⟩ := HR1.out
      have hl1 : H1.length = n := by rw [PMa.length_eq, ← HN.out]
      have HF := hidM (⟨HPa, PMa, by rw [hl1]; exact IHa, KPa⟩ : HP w0 wr hb (.slice a n cap) H1 ∧ H1.Perm H ∧ IsHp ltH H1 H1.length 0 ∧ Kp W1 wr)
      clear HPa PMa IHa KPa HR1 hsh hl1
      go_wp2
      go_end0
      exact ⟨rfl, H1, HF.out⟩
end Go.Proofs.YtaagllbcmgnbnaaGreatDoor
/- container/heap: up and Fix at the root, Pop; the heap's own Pop. -/
namespace Go.Proofs.YtaagllbcmgnbnaaGreatDoor
open Go.RowKit Go.Shelf
set_option linter.unusedVariables false
set_option maxRecDepth 100000

set_option maxHeartbeats 2000000 in
theorem up_any (hb : Nat) (w : World) : Calls Tryz.prog 117 #[hpV hb, .int .i64 0] w fun e w' => e = .returned (.tuple #[]) ∧ w' = w := by
  have e1 : Int.tdiv (-1) 2 = 0 := by decide
  go_enter Tryz.func117, Tryz.ntmps117
  go_wp2
  go_loopw [1, 4] (fun j i wr => j = .int .i64 0 ∧ wr = w) (fun _ _ _ => 0)
  case atStart => exact ⟨rfl, rfl⟩
  case round =>
    obtain ⟨rfl, hw⟩ := hrel
    subst hw
    go_wp2
    go_end0
    exact ⟨rfl, rfl⟩
set_option maxHeartbeats 2000000 in
theorem fix_any (w0 w : World) (hb g n cap : Nat) (H : List Hi) (h : HP w0 w hb (.slice (some ⟨g, 0, none⟩) n cap) H) (hn : n = H.length) (hcap : n ≤ 1000000) (hne : ∀ x ∈ H, x.2.1 ≠ []) (hhp : IsHp ltH H n 1) :
    Calls Tryz.prog 86 #[hpV hb, .int .i64 0] w fun e w' => e = .returned (.tuple #[]) ∧ ∃ H', HP w0 w' hb (.slice (some ⟨g, 0, none⟩) n cap) H' ∧ H'.Perm H ∧ IsHp ltH H' n 0 ∧ Kp w w' := by
  have n1 := fun F => na_len F ⟨hb, 0, none⟩
  have m1 := fun F W h => me_len F ⟨hb, 0, none⟩ W (.slice (some ⟨g, 0, none⟩) n cap) h
  have c0 := h.cell
  have HD := hidM (down_any w0 w hb g n cap H h hn hcap 0 n (Nat.le_refl _) (by omega) (fun k x _ hx => hne x (List.mem_of_getElem? hx)) hhp)
  rw [show (((0 : Nat)) : Int) = 0 from rfl] at HD
  have HU := hidM (up_any hb)
  clear h hn hne hhp
  go_enter Tryz.func86, Tryz.ntmps86
  go_wp2_with (first
    | (go_at_call 270; refine (llen_any _ _ _ _).mono ?_; rintro e W1 ⟨rfl, hw1⟩; subst hw1)
    | (go_at_call 84; refine HD.out.mono ?_; rintro e W2 ⟨⟨b, rfl⟩, H2, hp2, hpm2, -, hi2, hk2⟩; cases b)
    | (go_at_call 117; refine (HU.out _).mono ?_; rintro e W3 ⟨rfl, hw3⟩; subst hw3))
  all_goals (go_end0; exact ⟨rfl, H2, hp2, hpm2, hi2, hk2⟩)
set_option maxHeartbeats 2000000 in
theorem rpop_any (w0 w : World) (hb g m cap : Nat) (H : List Hi) (h : HP w0 w hb (.slice (some ⟨g, 0, none⟩) (m + 1) cap) H) (hn : m + 1 = H.length) (hcap : m + 1 ≤ 1000000) :
    Calls Tryz.prog 278 #[.pointer (some ⟨hb, 0, none⟩)] w fun e w' => (∃ u, e = .returned u) ∧ HP w0 w' hb (.slice (some ⟨g, 0, none⟩) m cap) (H.take m) ∧ Kp w w' := by
  have c0 := h.cell
  obtain ⟨x, hx⟩ := getSome (l := H) (i := m) (by omega)
  have hrow := h.hr.row
  rcases ownH_row hrow with ⟨e, -⟩ | ⟨g', cap', cur, e, hge, hg, hlc, hcm, hc⟩
  · cases e
  injection e with e1 e2 e3
  injection e1 with e1
  injection e1 with e1
  subst e1 e3
  clear e2
  obtain ⟨a0, a1⟩ := hc m x hx
  obtain ⟨⟨xa, xl, xc⟩, xr, xp⟩ := x
  simp only [slV] at a0 a1
  have hgl := block_lt_of_cell a0
  have hbl := block_lt_of_cell c0
  simp only at hgl hbl
  have hfz : w.frozen? ⟨hb, 0, none⟩ = false := frozen_of_row w hb 0 _ _ h.box
  have hlc' : m + 1 ≤ cap := by omega
  have HF := hidM (h.rebox (h.hr.pre m (by omega)))
  have HW := hidM (fun (W : World) (o : Obj) => (Below.refl W.heap.size W).alloc (Nat.le_refl _) o)
  clear h hn hc hx hrow hg hge
  go_enter Tryz.func278, Tryz.ntmps278
  go_wp2
  go_ret
  exact ⟨⟨_, rfl⟩, HF.out.1.below (HW.out _ _), HF.out.2.trans (Kp.below (HW.out _ _))⟩
theorem swp_pre {α : Type} {l : List α} {m : Nat} (hm : m + 1 = l.length) : ((swp l 0 m).take m).Perm (l.drop 1) := by
  have g0 := List.getElem?_eq_getElem (l := l) (i := 0) (by omega)
  have gm := List.getElem?_eq_getElem (l := l) (i := m) (by omega)
  have hp := swp_perm (l := l) (i := 0) (j := m) (by omega) (by omega)
  have hl : (swp l 0 m)[m]? = some l[0] := by rw [swp_at g0 gm, if_pos rfl]
  have e1 : swp l 0 m = (swp l 0 m).take m ++ [l[0]] := by
    have := List.take_append_drop m (swp l 0 m)
    rw [List.drop_eq_getElem?_toList_append, hl, List.drop_of_length_le (by rw [swp_len]; omega)] at this
    simpa using this.symm
  have e2 : l = l[0] :: l.drop 1 := by
    have := List.take_append_drop 1 l
    rw [List.take_one, List.head?_eq_getElem?, g0] at this
    simpa using this.symm
  rw [e1] at hp
  have h2 : (l[0] :: (swp l 0 m).take m).Perm (l[0] :: l.drop 1) := by
    rw [← e2]
    exact (List.perm_append_comm (l₁ := [l[0]])).trans hp
  exact h2.cons_inv
set_option maxHeartbeats 2000000 in
theorem hpop_any (w0 w : World) (hb g m cap : Nat) (H : List Hi) (h : HP w0 w hb (.slice (some ⟨g, 0, none⟩) (m + 1) cap) H) (hn : m + 1 = H.length) (hcap : m + 1 ≤ 1000000) (hne : ∀ x ∈ H.drop 1, x.2.1 ≠ []) (hhp : IsHp ltH H (m + 1) 1) :
    Calls Tryz.prog 85 #[hpV hb] w fun e w' => (∃ u, e = .returned u) ∧ ∃ H', HP w0 w' hb (.slice (some ⟨g, 0, none⟩) m cap) H' ∧ H'.Perm (H.drop 1) ∧ IsHp ltH H' H'.length 0 ∧ Kp w w' := by
  have n1 := fun F => na_len F ⟨hb, 0, none⟩
  have m1 := fun F W h => me_len F ⟨hb, 0, none⟩ W (.slice (some ⟨g, 0, none⟩) (m + 1) cap) h
  have n2 := fun F => na_swap F ⟨hb, 0, none⟩
  have m2 := fun F W h => me_swap F ⟨hb, 0, none⟩ W (.slice (some ⟨g, 0, none⟩) (m + 1) cap) h
  have n3 := fun F => na_pop F ⟨hb, 0, none⟩
  have m3 := fun F => me_pop F ⟨hb, 0, none⟩
  have c0 := h.cell
  have g0 := List.getElem?_eq_getElem (l := H) (i := 0) (by omega)
  have gm := List.getElem?_eq_getElem (l := H) (i := m) (by omega)
  have hsn : m + 1 = (swp H 0 m).length := by rw [swp_len]; exact hn
  have HS := hidM (lswap_any w0 w hb g (m + 1) cap H h hn hcap 0 m _ _ g0 gm)
  rw [show (((0 : Nat)) : Int) = 0 from rfl] at HS
  have hneS : ∀ k x, k < m → (swp H 0 m)[k]? = some x → x.2.1 ≠ [] := fun k x hk hx => hne x ((swp_pre hn).mem_iff.1 (by rw [← List.getElem?_take_of_lt hk] at hx; exact List.mem_of_getElem? hx))
  have HD := hidM (fun (W : World) (hW : HP w0 W hb (.slice (some ⟨g, 0, none⟩) (m + 1) cap) (swp H 0 m)) => down_any w0 W hb g (m + 1) cap (swp H 0 m) hW hsn hcap 0 m (by omega) (by omega) hneS (hhp.swp0 (by omega)))
  rw [show (((0 : Nat)) : Int) = 0 from rfl] at HD
  have HP1 := hidM (fun (W : World) (H3 : List Hi) (hW : HP w0 W hb (.slice (some ⟨g, 0, none⟩) (m + 1) cap) H3) (hp : H3.Perm (swp H 0 m)) => rpop_any w0 W hb g m cap H3 hW (by rw [hp.length_eq]; exact hsn) hcap)
  have HPR := hidM (fun (H3 : List Hi) (hp : H3.Perm (swp H 0 m)) (hd : H3.drop m = (swp H 0 m).drop m) (hi : IsHp ltH H3 m 0) => (⟨(perm_pre hp hd).trans (swp_pre hn), by
    have hl : (H3.take m).length = m := by rw [List.length_take, hp.length_eq, ← hsn]; omega
    rw [hl]
    exact hi.take⟩ : (H3.take m).Perm (H.drop 1) ∧ IsHp ltH (H3.take m) (H3.take m).length 0))
  clear h hn hne hhp hsn hneS g0 gm
  go_enter Tryz.func85, Tryz.ntmps85
  go_wp2_with (first
    | (go_at_call 270; refine (llen_any _ _ _ _).mono ?_; rintro e W1 ⟨rfl, hw1⟩; subst hw1)
    | (go_at_call 272; refine HS.out.mono ?_; rintro e W2 ⟨rfl, hp2, hk2⟩; have c2 := hp2.cell)
    | (go_at_call 84; refine (HD.out _ hp2).mono ?_; rintro e W3 ⟨⟨b, rfl⟩, H3, hp3, hpm3, hd3, hi3, hk3⟩)
    | (go_at_call 278; refine (HP1.out _ _ hp3 hpm3).mono ?_; rintro e W4 ⟨⟨u, rfl⟩, hp4, hk4⟩))
  go_ret
  exact ⟨⟨_, rfl⟩, H3.take m, hp4, (HPR.out H3 hpm3 hd3 hi3).1, (HPR.out H3 hpm3 hd3 hi3).2, (hk2.trans hk3).trans hk4⟩
end Go.Proofs.YtaagllbcmgnbnaaGreatDoor
/- The heap passes its first row. -/
namespace Go.Proofs.YtaagllbcmgnbnaaGreatDoor
open Go.RowKit Go.Shelf
set_option linter.unusedVariables false
set_option maxRecDepth 100000

theorem flatH_set1 : ∀ (l : List Hi) (i : Nat) (s s' : Sl) (r r' : List Rw) (p : Nat), l[i]? = some (s, r, p) → (flatH l).set (i * 2) (slV s') = flatH (l.set i (s', r', p))
  | [], i, s, s', r, r', p, h => by simp at h
  | a :: l, 0, s, s', r, r', p, h => by simp at h; subst h; simp [flatH, encH]
  | a :: l, i + 1, s, s', r, r', p, h => by
    have := flatH_set1 l i s s' r r' p (by simpa using h)
    simp only [flatH, List.flatMap_cons, encH, List.set_cons_succ] at this ⊢
    have e : (i + 1) * 2 = i * 2 + 1 + 1 := by omega
    rw [e]
    simp only [List.cons_append, List.nil_append, List.set_cons_succ]
    rw [this]
theorem HP.put1 {w0 w : World} {hb g n cap : Nat} {H : List Hi} (h : HP w0 w hb (.slice (some ⟨g, 0, none⟩) n cap) H) {s s' : Sl} {r r' : List Rw} {p : Nat} (hi : H[0]? = some (s, r, p)) (hx : ItOk w0 (s', r', p)) : HP w0 (w.setCell ⟨g, 0, none⟩ (slV s')) hb (.slice (some ⟨g, 0, none⟩) n cap) (H.set 0 (s', r', p)) ∧ Kp w (w.setCell ⟨g, 0, none⟩ (slV s')) := by
  obtain ⟨hbox, hlow, hrow, hbel, hit⟩ := h
  have hrow0 := hrow
  rcases ownH_row hrow with ⟨e, -⟩ | ⟨g', cap', cur, e, hge, hg, -⟩
  · cases e
  · injection e with e1 e2 e3
    injection e1 with e1
    injection e1 with e1
    subst e1 e2 e3
    obtain ⟨s1, -⟩ := hrow.stored (0 * 2) (slV s')
    rw [flatH_set1 H 0 s s' r r' p hi] at s1
    have hne : hb ≠ g := fun e => by
      have := hbox
      rw [e, hg] at this
      injection this with this
      injection this with _ this
      exact absurd this (by decide)
    refine ⟨⟨by rw [heap_setCell_other _ ⟨g, _, none⟩ hb _ hne]; exact hbox, hlow, ?_, hbel.setCell (p := ⟨g, _, none⟩) hge _, fun y hy => ?_⟩, Kp.set hg (.inr rfl) _ _⟩
    · unfold OwnH
      rw [List.length_set]
      exact s1
    · rcases List.mem_or_eq_of_mem_set hy with hy | rfl
      · exact hit y hy
      · exact hx
/-- The rest of an item. -/
theorem ItOk.tail {w0 : World} {b o n c : Nat} {r : Rw} {t : List Rw} {p : Nat} (h : ItOk w0 ((some ⟨b, o, none⟩, n + 1, c), r :: t, p)) (hn : n = t.length) (hc : t ≠ [] → c ≠ 1) : ItOk w0 (((if c = 1 then some ⟨b, o, none⟩ else some ⟨b, o + 4, none⟩), n, c - 1), t, p) := by
  have hcap := h.cap
  simp only at hcap
  refine ⟨?_, by simp only; omega, h.place⟩
  obtain ⟨a, cap, e, hs⟩ := h.ws
  injection e with e1 e2 e3
  subst e1 hn
  refine ⟨_, _, rfl, ?_⟩
  by_cases ht : t = []
  · exact .inl ht
  · refine .inr ?_
    rw [if_neg (hc ht)]
    rcases hs with hs | ⟨b', off', e4, hlt, hat⟩
    · cases hs
    · injection e4 with e4
      injection e4 with e4 e5
      subst e4 e5
      refine ⟨_, _, rfl, hlt, fun i x hx => ?_⟩
      have := hat (i + 1) x (by simpa using hx)
      rwa [show o + (i + 1) * 4 = o + 4 + i * 4 by omega] at this
/-- The first row is passed: what is left of its run, if anything, stands among the others. -/
def Passed (w0 w w' : World) (hb : Nat) (T : List Hi) (t : List Rw) (p : Nat) : Prop := ∃ v' H' s', HP w0 w' hb v' H' ∧ (if t = [] then H'.Perm T else H'.Perm ((s', t, p) :: T)) ∧ IsHp ltH H' H'.length 0 ∧ Kp w w'
set_option maxHeartbeats 4000000 in
theorem pass_any (w0 w : World) (hb : Nat) (v : Value) (H T : List Hi) (s : Sl) (r : Rw) (t : List Rw) (p : Nat) (h : HP w0 w hb v H) (hH : H = (s, r :: t, p) :: T) (hcap : H.length ≤ 1000000) (hne : ∀ x ∈ T, x.2.1 ≠ []) (hhp : IsHp ltH H H.length 0) :
    Calls Tryz.prog 54 #[.pointer (some ⟨hb, 0, none⟩)] w fun e w' => e = .returned (.tuple #[]) ∧ Passed w0 w w' hb T t p := by
  have c0 := h.cell
  have hx0 : H[0]? = some (s, r :: t, p) := by rw [hH]; rfl
  have hit := h.hr.it _ (List.mem_of_getElem? hx0)
  obtain ⟨b, o, n, c, es, en, hnc, hbl, -, -⟩ := item_key hit h.hr.bel (by simp)
  simp only at es
  subst es
  have hrow := h.hr.row
  rcases ownH_row hrow with ⟨-, e⟩ | ⟨g, cap, cur, rfl, hge, hg, hlc, hcm, hc⟩
  · rw [hH] at e; cases e
  obtain ⟨a0, a1⟩ := hc 0 _ hx0
  simp only [slV, Nat.zero_mul, Nat.zero_add] at a0 a1
  have f0 : w.frozen? ⟨g, 0, none⟩ = false := frozen_of_row w g 0 _ _ hg
  have hnt : n = t.length := by simpa using en
  have hc1 : t ≠ [] → c ≠ 1 := fun ht => by
    have : 0 < t.length := List.length_pos_iff.2 ht
    omega
  obtain ⟨m, hm⟩ : ∃ m, m + 1 = H.length := ⟨T.length, by rw [hH]; rfl⟩
  rw [← hm] at h hcap hhp c0
  have hfz : ∀ u : Value, (w.setCell ⟨g, 0, none⟩ u).cell? ⟨hb, 0, none⟩ = some (.slice (some ⟨g, 0, none⟩) (m + 1) cap) := fun u => by
    have hne' : hb ≠ g := fun e => by
      have := h.box
      rw [e, hg] at this
      injection this with this
      injection this with _ this
      exact absurd this (by decide)
    have hb1 := h.box
    rw [← heap_setCell_other w ⟨g, 0, none⟩ hb u hne'] at hb1
    simp only [World.cell?, hb1]
    rfl
  have HC := hidM (⟨hm, hne, hhp⟩ : m + 1 = H.length ∧ (∀ x ∈ T, x.2.1 ≠ []) ∧ IsHp ltH H (m + 1) 0)
  have HH := hidM hH
  by_cases ht : t = []
  · subst ht
    obtain rfl : n = 0 := hnt
    have key : ∀ a' : Option Addr, ItOk w0 ((a', 0, c - 1), [], p) := fun a' => ⟨⟨a', c - 1, rfl, .inl rfl⟩, Nat.zero_le _, hit.place⟩
    have HPUT := hidM (fun a' => h.put1 hx0 (key a'))
    have HPOP := hidM (fun a' => hpop_any w0 _ hb g m cap _ (HPUT.out a').1 (by rw [List.length_set]; exact HC.out.1) hcap (by rw [HH.out]; exact HC.out.2.1) (HC.out.2.2.set0 _))
    have HT := hidM (show ∀ x : Hi, (H.set 0 x).drop 1 = T from fun x => by rw [HH.out]; rfl)
    have hit' := hidM hnc
    clear h hx0 hit hc1 key hhp hne hH hrow hc hg hge hm hlc hcm hbl
    have HFZ := hidM hfz
    clear hfz en hnc
    simp only [Nat.zero_add] at a0
    have HFIN := hidM (fun (a' : Option Addr) (W' : World) (H' : List Hi) (hp : HP w0 W' hb (.slice (some ⟨g, 0, none⟩) m cap) H') (hpm : H'.Perm ((H.set 0 ((a', 0, c - 1), [], p)).drop 1)) (hi : IsHp ltH H' H'.length 0) (hk : Kp (w.setCell ⟨g, 0, none⟩ (slV (a', 0, c - 1))) W') =>
      (⟨.slice (some ⟨g, 0, none⟩) m cap, H', (a', 0, c - 1), hp, by rw [if_pos rfl]; rw [HT.out] at hpm; exact hpm, hi, (HPUT.out a').2.trans hk⟩ : Passed w0 w W' hb T [] p))
    by_cases hc1 : c = 1
    · subst hc1
      have HP1 := HPOP.out (some ⟨b, o, none⟩)
      have HF1 := HFIN.out (some ⟨b, o, none⟩)
      simp only [slV, Nat.sub_self] at HP1 HF1
      have HP1 := hidM HP1
      have HF1 := hidM HF1
      go_enter Tryz.func54, Tryz.ntmps54
      go_wp2_with (go_at_call 85; refine HP1.out.mono ?_; rintro e W2 ⟨⟨u, rfl⟩, H2, hp2, hpm2, hi2, hk2⟩)
      refine bodyPost_ret (results_none rfl _ _ _) rfl ?_
      exact ⟨rfl, HF1.out W2 H2 hp2 hpm2 hi2 hk2⟩
    · have HP1 := HPOP.out (some ⟨b, o + 4, none⟩)
      have HF1 := HFIN.out (some ⟨b, o + 4, none⟩)
      simp only [slV] at HP1 HF1
      have HP1 := hidM HP1
      have HF1 := hidM HF1
      have hc1' : 1 ≤ c := by have := hit'.out; omega
      go_enter Tryz.func54, Tryz.ntmps54
      go_wp2_with (go_at_call 85; refine HP1.out.mono ?_; rintro e W2 ⟨⟨u, rfl⟩, H2, hp2, hpm2, hi2, hk2⟩)
      refine bodyPost_ret (results_none rfl _ _ _) rfl ?_
      exact ⟨rfl, HF1.out W2 H2 hp2 hpm2 hi2 hk2⟩
  · obtain ⟨k, rfl⟩ : ∃ k, n = k + 1 := ⟨n - 1, by have : 0 < t.length := List.length_pos_iff.2 ht; omega⟩
    have hc2 := hc1 ht
    have HITEM := hit.tail hnt hc1
    rw [if_neg hc2] at HITEM
    have HPUT := hidM (h.put1 hx0 HITEM)
    have hne2 : ∀ x ∈ H.set 0 ((some ⟨b, o + 4, none⟩, k + 1, c - 1), t, p), x.2.1 ≠ [] := by
      rw [HH.out]
      intro x hx
      rcases List.mem_cons.1 hx with rfl | hx
      · exact ht
      · exact HC.out.2.1 x hx
    have HFX := hidM (fix_any w0 _ hb g (m + 1) cap _ HPUT.out.1 (by rw [List.length_set]; exact HC.out.1) hcap hne2 (HC.out.2.2.set0 _))
    have HFIN := hidM (fun (W' : World) (H' : List Hi) (hp : HP w0 W' hb (.slice (some ⟨g, 0, none⟩) (m + 1) cap) H') (hpm : H'.Perm (H.set 0 ((some ⟨b, o + 4, none⟩, k + 1, c - 1), t, p))) (hi : IsHp ltH H' (m + 1) 0) (hk : Kp (w.setCell ⟨g, 0, none⟩ (slV (some ⟨b, o + 4, none⟩, k + 1, c - 1))) W') =>
      (⟨.slice (some ⟨g, 0, none⟩) (m + 1) cap, H', (some ⟨b, o + 4, none⟩, k + 1, c - 1), hp, by rw [if_neg ht]; rw [HH.out] at hpm; exact hpm, by
        have : H'.length = m + 1 := by rw [hpm.length_eq, List.length_set]; exact HC.out.1.symm
        rw [this]; exact hi, HPUT.out.2.trans hk⟩ : Passed w0 w W' hb T t p))
    simp only [slV] at HFX HFIN
    have HFZ := hidM hfz
    have hc3 : 1 ≤ c := by omega
    have HT0 := hidM ht
    clear h hx0 hit hc1 hhp hne hH hrow hc hg hge hm hlc hcm hbl hfz en hnc hnt HITEM HPUT ht hne2
    go_enter Tryz.func54, Tryz.ntmps54
    go_wp2_with (go_at_call 86; refine HFX.out.mono ?_; rintro e W2 ⟨rfl, H2, hp2, hpm2, hi2, hk2⟩)
    go_end0
    exact ⟨rfl, HFIN.out W2 H2 hp2 hpm2 hi2 hk2⟩
end Go.Proofs.YtaagllbcmgnbnaaGreatDoor
/- local: runsOf. -/
namespace Go.Proofs.YtaagllbcmgnbnaaGreatDoor
open Go.RowKit Go.Shelf
set_option linter.unusedVariables false
set_option maxRecDepth 100000

theorem Tryz.infoRun : (Tryz.prog.info? 99).map (fun i => (i.zero, i.size, i.bytes)) = some (some (.agg #[.slice none 0 0, .int .i64 0]), 2, 32) := by kernel_rfl
/-- One item more. -/
theorem OwnH.app {W : World} {base b : Nat} {v : Value} {H : List Hi} {x : Hi} (ty : TypeId) (h : OwnH W base v H) (h0 : W.cell? ⟨b, 0, none⟩ = some (slV x.1)) (h1 : W.cell? ⟨b, 1, none⟩ = some (.int .i64 (x.2.2 : Int))) (hl : H.length ≤ 100000) (hb : base ≤ W.heap.size) :
    ∃ v' W', (Builtin.append_ #[71, 71] ty #[v, .slice (some ⟨b, 0, none⟩) 1 1]).run Tryz.prog W = .ok v' W' ∧ OwnH W' base v' (H ++ [x]) ∧ W.grownBy W' v.ownBlock ∧ ∀ k, v.ownBlock = some k → base ≤ k := by
  obtain ⟨i0, hi, hz0, hz1, hz2⟩ := info_parts Tryz.infoRun
  obtain ⟨v', w', hr, q2, q3, _, q5⟩ := run_append_own_at (P := Tryz.prog) W base 71 ty 99 i0 _ 2 32 Tryz.underlying71 hi hz0 hz1 hz2 rfl (by decide) v H.length (flatH H) h ⟨b, 0, none⟩ 1 1 (encH x) rfl (fun j u hj => by
    match j, hj with
    | 0, hj => simp [encH] at hj; subst hj; rw [Addr.add_lit]; exact h0
    | 1, hj => simp [encH] at hj; subst hj; rw [Addr.add_lit]; exact h1
    | j + 2, hj => simp [encH] at hj) (fun u hu => by simp [encH] at hu; rcases hu with rfl | rfl <;> rfl) (by unfold maxLen; omega) (by omega) hb
  refine ⟨v', w', hr, ?_, q3, own_row h⟩
  unfold OwnH
  rw [flatH_app, List.length_append]
  have : flatH [x] = encH x := by simp [flatH]
  rw [this]
  exact q2
/-- The items of the first k runs. -/
structure HUp (H : List Hi) (L : List (List Rw)) (k : Nat) : Prop where
  at_ : ∀ x ∈ H, x.2.1 ≠ [] ∧ L[x.2.2]? = some x.2.1 ∧ x.2.2 < k
  all : ∀ (i : Nat) (r : Rw) (l : List Rw), i < k → L[i]? = some (r :: l) → ∃ x ∈ H, x.2.2 = i
  nodup : (H.map (·.2.2)).Nodup
  len : H.length ≤ k
theorem HUp.start (L : List (List Rw)) : HUp [] L 0 := ⟨fun x h => (by cases h), fun i r l h => (by omega), List.nodup_nil, Nat.le_refl _⟩
theorem HUp.skip {H : List Hi} {L : List (List Rw)} {k : Nat} (h : HUp H L k) (hk : L[k]? = some []) : HUp H L (k + 1) :=
  ⟨fun x hx => ⟨(h.at_ x hx).1, (h.at_ x hx).2.1, by have := (h.at_ x hx).2.2; omega⟩, fun i r l hi hr => by
    by_cases e : i = k
    · subst e; rw [hk] at hr; cases hr
    · exact h.all i r l (by omega) hr, h.nodup, by have := h.len; omega⟩
theorem HUp.add {H : List Hi} {L : List (List Rw)} {k : Nat} {s : Sl} {l : List Rw} (h : HUp H L k) (hk : L[k]? = some l) (hl : l ≠ []) : HUp (H ++ [(s, l, k)]) L (k + 1) :=
  ⟨fun x hx => by
    rcases List.mem_append.1 hx with hx | hx
    · exact ⟨(h.at_ x hx).1, (h.at_ x hx).2.1, by have := (h.at_ x hx).2.2; omega⟩
    · simp at hx; subst hx; exact ⟨hl, hk, Nat.lt_succ_self k⟩, fun i r l' hi hr => by
    by_cases e : i = k
    · exact ⟨(s, l, k), by simp, e.symm⟩
    · obtain ⟨x, hx, ex⟩ := h.all i r l' (by omega) hr
      exact ⟨x, by simp [hx], ex⟩, by
    rw [List.map_append, List.nodup_append]
    refine ⟨h.nodup, by simp, fun a ha b hb e => ?_⟩
    obtain ⟨x, hx, rfl⟩ := List.mem_map.1 ha
    simp at hb
    have := (h.at_ x hx).2.2
    omega, by have := h.len; rw [List.length_append]; simp; omega⟩
theorem HUp.rel {H : List Hi} {L : List (List Rw)} (h : HUp H L L.length) : HRel H L :=
  ⟨fun x hx => ⟨(h.at_ x hx).1, (h.at_ x hx).2.1⟩, fun i r l hr => h.all i r l (List.getElem?_eq_some_iff.1 hr).1 hr, h.nodup⟩
theorem rebox0 {w0 w : World} {hb : Nat} {v v' : Value} {H' : List Hi} (hbox : w.heap[hb]? = some (.cells #[v] 71 (0, 0))) (hlow : w0.heap.size ≤ hb) (h' : HR w0 w v' H') : HP w0 (w.setCell ⟨hb, 0, none⟩ v') hb v' H' ∧ Kp w (w.setCell ⟨hb, 0, none⟩ v') := by
  have hs := heap_setCell_same w hb 0 _ _ v' hbox
  refine ⟨⟨by rw [hs]; rfl, hlow, ?_, h'.bel.setCell (p := ⟨hb, 0, none⟩) hlow _, h'.it⟩, Kp.set hbox (.inl rfl) _ _⟩
  refine ⟨h'.row.1, ?_⟩
  rcases h'.row.2 with h1 | ⟨g, cap, cur, h1, h2, h3, h4⟩
  · exact .inl h1
  · refine .inr ⟨g, cap, cur, h1, h2, ?_, h4⟩
    rw [heap_setCell_other _ ⟨hb, 0, none⟩ g _ (fun e => ?_)]
    · exact h3
    · have e : g = hb := e
      rw [e, hbox] at h3
      injection h3 with h3
      injection h3 with _ h3
      exact absurd h3 (by decide)
/-- An item is put behind those that are there, and the box holds the new row. -/
theorem HP.append {w0 w W1 : World} {hb : Nat} {v : Value} {H : List Hi} (h : HP w0 w hb v H) (hW : Below w.heap.size w W1) (x : Hi) (hx : ItOk w0 x) (hl : H.length ≤ 100000) (ty : TypeId) :
    ∃ v4 W4, (Builtin.append_ #[71, 71] ty #[v, .slice (some ⟨W1.heap.size, 0, none⟩) 1 1]).run Tryz.prog (W1.alloc (.cells #[slV x.1, .int .i64 (x.2.2 : Int)] 99)) = .ok v4 W4 ∧ W4.cell? ⟨hb, 0, none⟩ = some v ∧ W4.frozen? ⟨hb, 0, none⟩ = false ∧ HP w0 (W4.setCell ⟨hb, 0, none⟩ v4) hb v4 (H ++ [x]) := by
  have h3 := (h.below hW).below ((Below.refl W1.heap.size W1).alloc (Nat.le_refl _) (.cells #[slV x.1, .int .i64 (x.2.2 : Int)] 99))
  have hnew := heap_alloc_new W1 (.cells #[slV x.1, .int .i64 (x.2.2 : Int)] 99)
  generalize W1.alloc (.cells #[slV x.1, .int .i64 (x.2.2 : Int)] 99) = W3 at h3 hnew ⊢
  have k0 : W3.cell? ⟨W1.heap.size, 0, none⟩ = some (slV x.1) := by simp only [World.cell?, hnew]; rfl
  have k1 : W3.cell? ⟨W1.heap.size, 1, none⟩ = some (.int .i64 (x.2.2 : Int)) := by simp only [World.cell?, hnew]; rfl
  obtain ⟨v4, W4, u1, u2, u3, u4⟩ := h3.hr.row.app (b := W1.heap.size) (x := x) ty k0 k1 hl (h3.hr.bel.size)
  have hbx : W4.heap[hb]? = some (.cells #[v] 71 (0, 0)) := by
    rw [u3.block hb (Array.getElem?_eq_some_iff.1 h3.box).1 (fun e => ?_)]
    · exact h3.box
    · rcases ownH_row h3.hr.row with ⟨ev, -⟩ | ⟨g, cap, cur, ev, -, hg, -⟩
      · rw [ev] at e; simp [Value.ownBlock] at e
      · rw [ev] at e
        simp only [Value.ownBlock, Option.some.injEq] at e
        have hbx := h3.box
        rw [e, hg] at hbx
        injection hbx with hbx
        injection hbx with _ hbx
        exact absurd hbx (by decide)
  refine ⟨v4, W4, u1, by simp only [World.cell?, hbx]; rfl, frozen_of_row W4 hb 0 _ _ hbx, (rebox0 hbx h.low ⟨u2, h3.hr.bel.grown u3 h3.hr.bel.size u4, fun y hy => ?_⟩).1⟩
  rcases List.mem_append.1 hy with hy | hy
  · exact h.hr.it y hy
  · simp at hy; subst hy; exact hx
theorem OwnH.slice {w : World} {base : Nat} {v : Value} {H : List Hi} (h : OwnH w base v H) : ∃ a n c, v = .slice a n c := by
  rcases ownH_row h with ⟨e, -⟩ | ⟨g, cap, cur, e, -⟩
  · exact ⟨_, _, _, e⟩
  · exact ⟨_, _, _, e⟩
/-- What runsOf answers where all may be. -/
def RunsOf (w w' : World) (v : Value) (L : List (List Rw)) : Prop := ∃ H, HR w w' v H ∧ HRel H L ∧ IsHp ltH H H.length 0 ∧ H.length ≤ L.length
def RofR (w : World) (ok : Bool) (L : List (List Rw)) (e : Ending) (w' : World) : Prop := (ok = false → e = .returned (.tuple #[.slice none 0 0, .int .i64 1])) ∧ (ok = true → ∃ v, e = .returned (.tuple #[v, .int .i64 0]) ∧ RunsOf w w' v L) ∧ Below w.heap.size w w'
theorem RofR.bad {w w' : World} {ok : Bool} {L : List (List Rw)} (h : ok = false) (hb : Below w.heap.size w w') : RofR w ok L (.returned (.tuple #[.slice none 0 0, .int .i64 1])) w' := ⟨fun _ => rfl, fun h2 => (by rw [h] at h2; cases h2), hb⟩
theorem RofR.good {w w' : World} {ok : Bool} {L : List (List Rw)} {v : Value} (h : ok = true) (hr : RunsOf w w' v L) (hb : Below w.heap.size w w') : RofR w ok L (.returned (.tuple #[v, .int .i64 0])) w' := ⟨fun h2 => (by rw [h] at h2; cases h2), fun _ => ⟨v, rfl, hr⟩, hb⟩
set_option maxHeartbeats 4000000 in
theorem runsof_any (agg bound : Int) (u : Value) (L : List (List Rw)) (w : World) (h : RnS w u L) (hL : ∀ l ∈ L, WfRs l) (hl : L.length ≤ 1000) (hls : ∀ l ∈ L, l.length ≤ 100000 ∧ ∀ r ∈ l, r.2.2.length ≤ 100000) :
    Calls Tryz.prog 32 #[.int .i64 agg, .int .i64 bound, u] w (RofR w (wayC agg bound && L.all (okRows agg bound)) L) := by
  have H0 := hidM (fun W => rcheck_any agg bound (.slice none 0 0) [] W ⟨none, 0, rfl, .inl rfl⟩ (by simp) (by simp) (Nat.le_refl _))
  have hok0 : okRows agg bound [] = wayC agg bound := by unfold okRows; simp
  rw [hok0] at H0
  obtain ⟨ok, hok⟩ : ∃ ok, (wayC agg bound && L.all (okRows agg bound)) = ok := ⟨_, rfl⟩
  rw [hok]
  have HOK := hidM hok
  cases hw : wayC agg bound with
  | false =>
    rw [hw, show errC false = 1 from rfl] at H0
    have HF : Hid (ok = false) := hidM (by rw [← hok, hw]; rfl)
    obtain ⟨va, vc, rfl, -⟩ := h
    clear hok hL hls
    go_enter Tryz.func32, Tryz.ntmps32
    go_wp2_with (go_at_call 52; refine (H0.out _).mono ?_; rintro e W1 ⟨rfl, hb1⟩)
    go_ret2
    exact RofR.bad HF.out hb1
  | true =>
    rw [hw, show errC true = 0 from rfl] at H0
    have HB0 := hidM (fun (W : World) => (Below.refl W.heap.size W).alloc (Nat.le_refl _) (.cells #[.slice none 0 0] 71))
    have HS := hidM h
    obtain ⟨va, vc, rfl, hsh⟩ := h
    have HLs := hidM hls
    have HL := hidM hl
    have HW := hidM hw
    clear hok hL hls hw
    go_enter Tryz.func32, Tryz.ntmps32
    go_wp2_with (go_at_call 52; refine (H0.out _).mono ?_; rintro e W1 ⟨rfl, hb1⟩)
    have hp0 : HP w (W1.alloc (.cells #[.slice none 0 0] 71)) W1.heap.size (.slice none 0 0) [] := ⟨heap_alloc_new W1 _, hb1.size, World.ownsRow_nil _ _ _ _, hb1.trans ((HB0.out W1).mono hb1.size), fun x hx => by cases hx⟩
    have HST := hidM hp0
    clear hp0 hb1
    generalize W1.alloc (.cells #[.slice none 0 0] 71) = W2 at HST ⊢
    generalize W1.heap.size = hb at HST ⊢
    clear W1 H0 HB0
    go_loopw [21] (fun i wr => ∃ (k : Nat) (v : Value) (H : List Hi), i = .int .i64 k ∧ k ≤ L.length ∧ wr.cell? ⟨hb, 0, none⟩ = some v ∧ Hid (HP w wr hb v H ∧ HUp H L k ∧ ∀ l ∈ L.take k, okRows agg bound l = true)) (fun i _ => L.length - (intOf i).toNat)
    case atStart => exact ⟨0, _, [], rfl, by omega, HST.out.cell, hidM ⟨HST.out, HUp.start L, fun l hl => by simp at hl⟩⟩
    case round =>
      rename World => w0
      obtain ⟨k, v, H, rfl, hk, hc0, HR1⟩ := hrel
      by_cases hlt : k < L.length
      · obtain ⟨r, hr⟩ := getSome hlt
        rcases hsh with rfl | ⟨b, off, rfl, hb', hat⟩
        · simp at hlt
        have hrm := List.mem_of_getElem? hr
        obtain ⟨u, hu0, hws, hcap⟩ := hat k r hr
        have hbel := HR1.out.1.hr.bel
        have hu := (hbel.cell (p := ⟨b, off + k, none⟩) hb').trans hu0
        have HC := hidM (rcheck_any agg bound u r w0 (hws.below hbel) (HLs.out r hrm).1 (HLs.out r hrm).2 hcap)
        cases hokr : okRows agg bound r with
        | false =>
          rw [hokr, show errC false = 1 from rfl] at HC
          have HF : Hid (ok = false) := hidM (by
            rw [← HOK.out, HW.out, Bool.true_and, List.all_eq_false]
            exact ⟨r, hrm, by rw [hokr]; decide⟩)
          have HBEL := hidM hbel
          obtain ⟨ua, uc, rfl, -⟩ := hws
          clear hat hbel hcap hokr
          go_wp2_with (go_at_call 52; refine HC.out.mono ?_; rintro e W1 ⟨rfl, hb1⟩)
          go_ret2
          exact RofR.bad HF.out (nxt HBEL.out hb1)
        | true =>
          rw [hokr, show errC true = 0 from rfl] at HC
          have HOA := hidM (show ∀ l ∈ L.take (k + 1), okRows agg bound l = true from fun l hl => by
            rw [List.take_add_one, hr] at hl
            rcases List.mem_append.1 hl with hl | hl
            · exact HR1.out.2.2 l hl
            · simp at hl; subst hl; exact hokr)
          obtain ⟨ua, uc, rfl, hush⟩ := id hws
          have HR2 := hidM HR1.out
          cases r with
          | nil =>
            have HFN := hidM (fun (W' : World) (hW : Below w0.heap.size w0 W') => (⟨HR1.out.1.below hW, HR1.out.2.1.skip hr, HOA.out⟩ : HP w W' hb v H ∧ HUp H L (k + 1) ∧ ∀ l ∈ L.take (k + 1), okRows agg bound l = true))
            clear hat hbel hcap hokr HR1 hws hush HR2
            go_wp2_with (go_at_call 52; refine HC.out.mono ?_; rintro e W1 ⟨rfl, hb1⟩)
            go_roundw
            case rel => exact ⟨k + 1, v, H, by go_num, by omega, (HFN.out _ hb1).1.cell, hidM (HFN.out _ hb1)⟩
            case measure => simp [intOf]; omega
          | cons r0 t =>
            have hx : ItOk w ((ua, (r0 :: t).length, uc), r0 :: t, k) := ⟨hws, hcap, by have := HL.out; simp only; omega⟩
            have HAP := hidM (fun (W' : World) (hW : Below w0.heap.size w0 W') => HR1.out.1.append hW ((ua, (r0 :: t).length, uc), r0 :: t, k) hx (by have := HR1.out.2.1.len; have := HL.out; omega) 71)
            have HUA := hidM (HR1.out.2.1.add (s := (ua, (r0 :: t).length, uc)) hr (by simp))
            have HCL := hidM (fun (W' : World) (hW : Below w0.heap.size w0 W') => (HR1.out.1.below hW).cell)
            simp only [slV] at HAP
            obtain ⟨nl, hnl⟩ : ∃ nl, (r0 :: t).length = nl := ⟨_, rfl⟩
            have hnl0 : 0 < nl := by rw [← hnl]; simp
            rw [hnl] at HC HAP hu HUA
            clear hat hbel hcap hokr HR1 hws hush HR2 hnl hx
            go_wp2_with (first
              | (go_at_call 52; refine HC.out.mono ?_; rintro e W1 ⟨rfl, hb1⟩; obtain ⟨v4, W4, u1, c4, f4, hp4⟩ := HAP.out _ hb1; obtain ⟨a4, n4, k4, rfl⟩ := hp4.hr.row.slice; have U1 := hidM u1; have c1 := HCL.out _ hb1; clear u1)
              | (at_builtin; refine wpList_append_run _ rfl _ _ _ rfl _ _ (.slice a4 n4 k4) W4 rfl rfl U1.out ?_))
            go_roundw
            case rel => exact ⟨k + 1, .slice a4 n4 k4, _, by go_num, by omega, hp4.cell, hidM ⟨hp4, HUA.out, HOA.out⟩⟩
            case measure => simp [intOf]; omega
      · obtain rfl : k = L.length := by omega
        obtain ⟨HPa, HUa, HAa⟩ := HR1.out
        rw [List.take_length] at HAa
        have HT : Hid (ok = true) := hidM (by rw [← HOK.out, HW.out, List.all_eq_true.2 HAa]; rfl)
        have HREL := hidM HUa.rel
        have HI := hidM (init_any w w0 hb v H HPa (by have := HUa.len; have := HL.out; omega) (fun x hx => (HUa.at_ x hx).1))
        have HLEN := hidM HUa.len
        have HCL := hidM HPa.hr.bel
        clear HPa HUa HAa HR1
        go_wp2_with (go_at_call 53; refine HI.out.mono ?_; rintro e W1 ⟨rfl, H2, hp2, hpm2, hi2, hk2⟩; have c1 := hp2.cell)
        go_ret2
        exact RofR.good HT.out ⟨H2, hp2.hr, HREL.out.perm hpm2, hi2, by rw [hpm2.length_eq]; exact HLEN.out⟩ hp2.hr.bel
end Go.Proofs.YtaagllbcmgnbnaaGreatDoor
/- local: least. -/
namespace Go.Proofs.YtaagllbcmgnbnaaGreatDoor
open Go.RowKit Go.Shelf
set_option linter.unusedVariables false
set_option maxRecDepth 100000

/-- Slices of one row each: what they hold lay there when the call began. -/
def OwnV (w0 w : World) (base : Nat) (v : Value) (X : List Rw) : Prop := ∃ vs, w.ownsRow base 37 1 v vs.length vs ∧ vs.length = X.length ∧ ∀ (i : Nat) (u : Value) (x : Rw), vs[i]? = some u → X[i]? = some x → WS w0 u [x] ∧ CapOk u
theorem OwnV.nil (w0 w : World) (base : Nat) : OwnV w0 w base (.slice none 0 0) [] := ⟨[], World.ownsRow_nil _ _ _ _, rfl, fun i u l h => by simp at h⟩
theorem OwnV.shape {w0 w : World} {base : Nat} {v : Value} {X : List Rw} (h : OwnV w0 w base v X) : ∃ a c, v = .slice a X.length c := by
  obtain ⟨vs, h1, h2, -⟩ := h
  rcases h1.2 with ⟨e, h0⟩ | ⟨g, cap, cur, e, -⟩
  · exact ⟨none, 0, by rw [← h2, h0]; exact e⟩
  · exact ⟨_, cap, by rw [← h2]; exact e⟩
theorem OwnV.kp {w0 w w' : World} {base : Nat} {v : Value} {X : List Rw} (h : OwnV w0 w base v X) (k : Kp w w') : OwnV w0 w' base v X := by
  obtain ⟨vs, h1, h2, h3⟩ := h
  refine ⟨vs, ⟨h1.1, ?_⟩, h2, h3⟩
  rcases h1.2 with h4 | ⟨g, cap, cur, e1, e2, e3, e4⟩
  · exact .inl h4
  · exact .inr ⟨g, cap, cur, e1, e2, k.2 _ (by decide) (by decide) g cur e3, e4⟩
/-- They may be read as runs. -/
theorem OwnV.rns {w0 w : World} {base : Nat} {v : Value} {X : List Rw} (h : OwnV w0 w base v X) (hb : Below w0.heap.size w0 w) : RnS w v (X.map fun x => [x]) := by
  obtain ⟨vs, hx, hl, ha⟩ := h
  rcases hx.2 with ⟨rfl, h0⟩ | ⟨g, cap, cur, rfl, _, hg, _, _, _, ht⟩
  · have : vs = [] := List.length_eq_zero_iff.1 h0
    subst this
    have : X = [] := List.length_eq_zero_iff.1 hl.symm
    subst this
    exact ⟨none, 0, rfl, .inl rfl⟩
  · refine ⟨_, cap, by rw [hl, List.length_map], .inr ⟨g, 0, rfl, (Array.getElem?_eq_some_iff.1 hg).1, fun i l hi => ?_⟩⟩
    rw [List.getElem?_map] at hi
    cases hxi : X[i]? with
    | none => rw [hxi] at hi; cases hi
    | some x =>
      rw [hxi] at hi
      injection hi with hi
      subst hi
      have hil : i < X.length := (List.getElem?_eq_some_iff.1 hxi).1
      obtain ⟨u, hu⟩ := getSome (l := vs) (i := i) (by rw [hl]; exact hil)
      obtain ⟨k1, k2⟩ := ha i u x hu hxi
      refine ⟨u, ?_, k1.below hb, k2⟩
      have h0 := hu
      rw [← ht, List.getElem?_take_of_lt (by omega)] at h0
      rw [Nat.zero_add]
      simp only [World.cell?, hg]
      simpa using h0
theorem OwnV.app {w0 W : World} {base b : Nat} {v u : Value} {X : List Rw} {x : Rw} (ty : TypeId) (h : OwnV w0 W base v X) (hu : WS w0 u [x]) (hcu : CapOk u) (hc : W.cell? ⟨b, 0, none⟩ = some u) (hl : X.length ≤ 100000) (hb : base ≤ W.heap.size) :
    ∃ v' W', (Builtin.append_ #[22, 22] ty #[v, .slice (some ⟨b, 0, none⟩) 1 1]).run Tryz.prog W = .ok v' W' ∧ OwnV w0 W' base v' (X ++ [x]) ∧ W.grownBy W' v.ownBlock ∧ (∀ k, v.ownBlock = some k → base ≤ k) ∧ KeepT 71 W W' ∧ KeepT 99 W W' ∧ KeepT 66 W W' := by
  obtain ⟨i0, hi, hz0, hz1, hz2⟩ := info_parts Tryz.infoRows
  obtain ⟨vs, h1, h2, h3⟩ := h
  obtain ⟨ua, uc, rfl, -⟩ := id hu
  obtain ⟨v', w', hr, q2, q3, _, q5⟩ := run_append_own_at (P := Tryz.prog) W base 22 ty 37 i0 _ 1 24 Tryz.underlying22 hi hz0 hz1 hz2 rfl (by decide) v vs.length vs h1 ⟨b, 0, none⟩ 1 1 [.slice ua [x].length uc] rfl (fun j u hj => by
    match j, hj with
    | 0, hj => simp at hj; subst hj; rw [Addr.add_lit]; exact hc) (fun u hu => by simp at hu; subst hu; rfl) (by unfold maxLen; omega) (by omega) hb
  refine ⟨v', w', hr, ⟨vs ++ [.slice ua [x].length uc], by rw [List.length_append]; exact q2, by simp [h2], fun i u l' hu' hl' => ?_⟩, q3, own_row h1, KeepT.row (by decide) h1 q3, KeepT.row (by decide) h1 q3, KeepT.row (by decide) h1 q3⟩
  by_cases hi' : i < vs.length
  · rw [List.getElem?_append_left hi'] at hu'
    rw [List.getElem?_append_left (h2 ▸ hi')] at hl'
    exact h3 i u l' hu' hl'
  · rw [List.getElem?_append_right (by omega)] at hu'
    rw [List.getElem?_append_right (by omega)] at hl'
    have e : i - vs.length = 0 := by
      have := (List.getElem?_eq_some_iff.1 hu').1
      simp at this
      omega
    rw [e] at hu'
    rw [← h2, e] at hl'
    simp at hu' hl'
    subst hu' hl'
    exact ⟨hu, hcu⟩
/-- Behind a growing of another row all stays. -/
theorem HP.grow {w0 w w' : World} {hb : Nat} {v : Value} {H : List Hi} (h : HP w0 w hb v H) (k1 : KeepT 71 w w') (k2 : KeepT 99 w w') (hbel : Below w0.heap.size w0 w') : HP w0 w' hb v H := by
  refine ⟨k1 _ _ h.box, h.low, ⟨h.hr.row.1, ?_⟩, hbel, h.hr.it⟩
  rcases h.hr.row.2 with h4 | ⟨g, cap, cur, e1, e2, e3, e4⟩
  · exact .inl h4
  · exact .inr ⟨g, cap, cur, e1, e2, k2 g cur e3, e4⟩
theorem Kp.grown {w wr w' : World} {v : Value} (h : Kp w wr) (hg : wr.grownBy w' v.ownBlock) (hv : ∀ k, v.ownBlock = some k → w.heap.size ≤ k) : Kp w w' := by
  refine ⟨Nat.le_trans h.1 hg.size, fun T h1 h2 g cur hh => ?_⟩
  have hgl := (Array.getElem?_eq_some_iff.1 hh).1
  rw [hg.block g (Nat.lt_of_lt_of_le hgl h.1) (fun e => ?_)]
  · exact h.2 T h1 h2 g cur hh
  · have := hv g e.symm
    omega
/-- At most one row of a key a run. -/
theorem ofK_len {k : Ky} : ∀ {R : List (List Rw)}, (∀ l ∈ R, RiseK l) → (ofK k R.flatten).length ≤ R.length
  | [], _ => by simp [ofK]
  | l :: R, h => by
    rw [List.flatten_cons, ofK_app, List.length_append]
    have ih := ofK_len (k := k) (R := R) fun l hl => h l (by simp [hl])
    have h1 : (ofK k l).length ≤ 1 := by
      have hr : RiseK (ofK k l) := List.Pairwise.sublist List.filter_sublist (h l (by simp))
      match hX : ofK k l, hr with
      | [], _ => simp
      | [_], _ => simp
      | a :: b :: m, hr =>
        rw [riseK_cons] at hr
        have := hr.1 b (by simp)
        have ea : a.1 = k := (mem_ofK.1 (by rw [hX]; simp)).2
        have eb : b.1 = k := (mem_ofK.1 (by rw [hX]; simp)).2
        rw [ea, eb, ltK_irrefl] at this
        cases this
    simp
    omega
/-- How far the taking of the least key is. -/
structure Lst (w0 w wr : World) (hb : Nat) (rv v : Value) (X : List Rw) (H : List Hi) (R0 R : List (List Rw)) (k : Ky) : Prop where
  own : OwnV w0 wr w.heap.size rv X
  hp : HP w0 wr hb v H
  rel : HRel H R
  rise : ∀ l ∈ R, RiseK l
  heap : IsHp ltH H H.length 0
  split : ofK k R0.flatten = X ++ ofK k R.flatten
  others : ∀ x, x ≠ k → ofK x R0.flatten = ofK x R.flatten
  low : ∀ y ∈ R.flatten, ltK y.1 k = false
  kp : Kp w wr
  len : H.length ≤ 1000
  rlen : R.length = R0.length
/-- What least answers. -/
def LeastR (w0 w w' : World) (hb : Nat) (rv : Value) (R0 : List (List Rw)) (k : Ky) : Prop := ∃ v H R, Lst w0 w w' hb rv v (ofK k R0.flatten) H R0 R k ∧ ofK k R.flatten = [] ∧ ∀ y ∈ R.flatten, ltK k y.1 = true
theorem Lst.done {w0 w wr : World} {hb : Nat} {rv v : Value} {X : List Rw} {H : List Hi} {R0 R : List (List Rw)} {k : Ky} (h : Lst w0 w wr hb rv v X H R0 R k) (hH : ∀ x, H[0]? = some x → hkey x ≠ k) : LeastR w0 w wr hb rv R0 k := by
  have hg : ∀ y ∈ R.flatten, ltK k y.1 = true := by
    intro y hy
    cases hx : H[0]? with
    | none =>
      have : H = [] := by simpa using hx
      have := h.rel
      subst H
      rw [this.nil] at hy
      cases hy
    | some x =>
      have hne := hH x hx
      have hroot := h.heap.root ordH ltH_irrefl hx
      have hlow := h.rel.low h.rise (x := x) (fun z hz => by obtain ⟨q, hq⟩ := List.getElem?_of_mem hz; exact hroot q z hq) y hy
      obtain ⟨hxa, hxb⟩ := h.rel.at_ x (List.mem_of_getElem? hx)
      have hkx : ltK (hkey x) k = false := by
        obtain ⟨r, t, hr⟩ : ∃ r t, x.2.1 = r :: t := by
          cases hc : x.2.1 with
          | nil => exact absurd hc hxa
          | cons r t => exact ⟨r, t, rfl⟩
        have : hkey x = r.1 := by unfold hkey; rw [hr]
        rw [this]
        exact h.low r (List.mem_flatten.2 ⟨_, List.mem_of_getElem? hxb, by rw [hr]; simp⟩)
      cases hky : ltK k y.1
      · have h2 := leK_trans hlow hky
        exact absurd (ltK_total hkx h2) hne
      · rfl
  have h0 : ofK k R.flatten = [] := ofK_nil fun y hy e => by have := hg y hy; rw [e, ltK_irrefl] at this; cases this
  have hs := h.split
  rw [h0, List.append_nil] at hs
  subst hs
  exact ⟨v, H, R, h, h0, hg⟩
theorem Lst.step {w0 w wr W2 W3 : World} {hb : Nat} {rv rv' v : Value} {X : List Rw} {T : List Hi} {R0 R : List (List Rw)} {k : Ky} {s : Sl} {r : Rw} {t : List Rw} {p : Nat} (h : Lst w0 w wr hb rv v X ((s, r :: t, p) :: T) R0 R k) (hk : r.1 = k)
    (ho : OwnV w0 W2 w.heap.size rv' (X ++ [r])) (hk2 : Kp w W2) (hp : Passed w0 W2 W3 hb T t p) : ∃ v' H', Lst w0 w W3 hb rv' v' (X ++ [r]) H' R0 (R.set p t) k := by
  obtain ⟨v', H', s', h1, h2, h3, h4⟩ := hp
  have hroot := h.heap.root ordH ltH_irrefl (x := (s, r :: t, p)) rfl
  obtain ⟨q1, q2, q3, q4, q5⟩ := h.rel.take h.rise (fun y hy => by obtain ⟨i, hi⟩ := List.getElem?_of_mem hy; exact hroot i y hi)
  rw [hk] at q1 q2
  refine ⟨v', H', ho.kp h4, h1, h.rel.next h2, q3, h3, ?_, fun x hx => (h.others x hx).trans (q2 x hx), fun y hy => h.low y (q4 y hy), hk2.trans h4, ?_, by rw [List.length_set]; exact h.rlen⟩
  · rw [h.split, q1, List.append_assoc]; rfl
  · have hl := h.len
    by_cases ht : t = []
    · rw [if_pos ht] at h2
      rw [h2.length_eq]
      simp at hl
      omega
    · rw [if_neg ht] at h2
      rw [h2.length_eq]
      simpa using hl
theorem Lst.below {w0 w wr W : World} {hb : Nat} {rv v : Value} {X : List Rw} {H : List Hi} {R0 R : List (List Rw)} {k : Ky} (h : Lst w0 w wr hb rv v X H R0 R k) (hW : Below wr.heap.size wr W) : Lst w0 w W hb rv v X H R0 R k := ⟨h.own.kp (Kp.below hW), h.hp.below hW, h.rel, h.rise, h.heap, h.split, h.others, h.low, h.kp.trans (Kp.below hW), h.len, h.rlen⟩
def sliceLen : Value → Nat
  | .slice _ n _ => n
  | _ => 0
set_option maxHeartbeats 4000000 in
theorem least_any (w0 w : World) (hb : Nat) (v : Value) (H : List Hi) (R0 : List (List Rw)) (x0 : Hi) (h : HP w0 w hb v H) (hr : HRel H R0) (hrise : ∀ l ∈ R0, RiseK l) (hhp : IsHp ltH H H.length 0) (hlen : H.length ≤ 1000) (hRl : R0.length ≤ 1000) (hx0 : H[0]? = some x0) :
    Calls Tryz.prog 34 #[.pointer (some ⟨hb, 0, none⟩)] w fun e w' => ∃ rv, e = .returned rv ∧ LeastR w0 w w' hb rv R0 (hkey x0) := by
  have c0 := h.cell
  have h0sz := h.hr.bel.size
  have hroot := hhp.root ordH ltH_irrefl hx0
  have hlow := hr.low hrise (x := x0) (fun z hz => by obtain ⟨q, hq⟩ := List.getElem?_of_mem hz; exact hroot q z hq)
  have hxe := (hr.at_ x0 (List.mem_of_getElem? hx0)).1
  obtain ⟨b, o, n, c, es, en, hnc, hbl, k0, k1⟩ := item_key (h.hr.it x0 (List.mem_of_getElem? hx0)) h.hr.bel hxe
  rcases ownH_row h.hr.row with ⟨-, e⟩ | ⟨g, cap, cur, rfl, hge, hg, hlc, hcm, hc⟩
  · rw [e] at hx0; cases hx0
  obtain ⟨a0, a1⟩ := hc 0 _ hx0
  rw [es] at a0
  simp only [slV, Nat.zero_mul] at a0
  have hH0 : 0 < H.length := (List.getElem?_eq_some_iff.1 hx0).1
  obtain ⟨hn, hhn⟩ : ∃ hn, H.length = hn := ⟨_, rfl⟩
  have HST := hidM (fun (W : World) (hW : Below w.heap.size w W) => (⟨OwnV.nil w0 W _, h.below hW, hr, hrise, hhp, by rw [List.nil_append], fun _ _ => rfl, hlow, Kp.below hW, hlen, rfl⟩ : Lst w0 w W hb (.slice none 0 0) (.slice (some ⟨g, 0, none⟩) H.length cap) [] H R0 R0 (hkey x0)))
  have HRL := hidM (Nat.le_trans (ofK_len (k := hkey x0) hrise) hRl)
  rw [hhn] at HST c0 hH0
  generalize hkey x0 = kk at HST HRL k0 k1 ⊢
  obtain ⟨ka, kb⟩ := kk
  simp only at k0 k1
  have hN := hidM (fun (W : World) (o : Obj) => (Below.refl W.heap.size W).alloc (Nat.le_refl _) o)
  clear h hr hrise hhp hlen hRl hx0 hroot hlow hxe hc hg hge hlc hcm es en a1 hhn
  go_enter Tryz.func34, Tryz.ntmps34
  go_wp2
  have hnk := heap_alloc_new w (.cells #[.int .i64 ka, .string kb] 66)
  have HB1 := hidM (HST.out _ (hN.out w (.cells #[.int .i64 ka, .string kb] 66)))
  have c1 := HB1.out.hp.cell
  have HNK := hidM hnk
  have q0 : (w.alloc (.cells #[.int .i64 ka, .string kb] 66)).cell? ⟨w.heap.size, 0, none⟩ = some (.int .i64 ka) := by simp only [World.cell?, hnk]; rfl
  have q1 : (w.alloc (.cells #[.int .i64 ka, .string kb] 66)).cell? ⟨w.heap.size, 1, none⟩ = some (.string kb) := by simp only [World.cell?, hnk]; rfl
  clear hnk
  generalize w.alloc (.cells #[.int .i64 ka, .string kb] 66) = Wk at HB1 HNK c1 q0 q1 ⊢
  obtain ⟨kp, hkp⟩ : ∃ kp, w.heap.size = kp := ⟨_, rfl⟩
  rw [hkp] at HNK q0 q1 ⊢
  have HKP := hidM hkp
  have HB0 := hidM h0sz
  clear hkp HST k0 k1 a0 c0 hnc hbl
  go_loopw [2] (fun rv wr => ∃ (X : List Rw) (v : Value) (H : List Hi) (R : List (List Rw)) (a' : Option Addr) (c' : Nat), rv = .slice a' X.length c' ∧ wr.cell? ⟨hb, 0, none⟩ = some v ∧ wr.cell? ⟨kp, 0, none⟩ = some (.int .i64 ka) ∧ wr.cell? ⟨kp, 1, none⟩ = some (.string kb) ∧ Hid (Lst w0 w wr hb rv v X H R0 R (ka, kb) ∧ wr.heap[kp]? = some (.cells #[.int .i64 ka, .string kb] 66 (0, 0)))) (fun rv _ => 1001 - sliceLen rv)
  case atStart => exact ⟨[], _, H, R0, none, 0, rfl, c1, q0, q1, hidM ⟨HB1.out, HNK.out⟩⟩
  case round =>
    clear c1 q0 q1 HB1 HNK
    obtain ⟨X, v, H1, R, a', c', rfl, c0, q0, q1, HR1⟩ := hrel
    obtain ⟨HL, HNK⟩ := HR1.out
    have hXl : X.length ≤ 1000 := by
      have := HRL.out
      rw [HL.split, List.length_append] at this
      omega
    obtain ⟨Xn, hXn⟩ : ∃ Xn, X.length = Xn := ⟨_, rfl⟩
    cases H1 with
    | nil =>
      have HD := hidM (fun q => (HL.below (below_drewN (Below.refl _ _) q)).done (fun x hx => by cases hx))
      obtain ⟨va, vn, vc, rfl, hvn⟩ : ∃ a n c, v = .slice a n c ∧ n = 0 := by
        rcases ownH_row HL.hp.hr.row with ⟨e, -⟩ | ⟨g, cap, cur, e, -⟩
        · exact ⟨_, _, _, e, rfl⟩
        · exact ⟨_, _, _, e, rfl⟩
      subst hvn
      clear HL HNK HR1
      rw [hXn] at HD ⊢
      go_wp2
      go_quiet (fail)
      go_wp2
      go_ret
      exact ⟨_, rfl, HD.out _⟩
    | cons x T =>
      obtain ⟨s, xr, p⟩ := x
      obtain ⟨hxe, hxR⟩ := HL.rel.at_ _ (List.mem_cons_self)
      simp only at hxe hxR
      cases xr with
      | nil => exact absurd rfl hxe
      | cons r t =>
      have hit := HL.hp.hr.it _ (List.mem_cons_self)
      obtain ⟨b, o, n, c, es, en, hnc, hbl, k0, k1⟩ := item_key hit HL.hp.hr.bel (by simp)
      simp only at es
      subst es
      simp only [hkey] at k0 k1
      obtain ⟨⟨ra, rb⟩, rc⟩ := r
      simp only at k0 k1
      rcases ownH_row HL.hp.hr.row with ⟨-, e⟩ | ⟨g, cap, cur, rfl, -, -, -, -, hc⟩
      · cases e
      obtain ⟨a0, a1⟩ := hc 0 _ rfl
      simp only [slV, Nat.zero_mul] at a0
      have he := eqK ra ka rb kb
      have hgd := guardK
      have hlp : 0 < (((some ⟨b, o, none⟩, n + 1, c), ((ra, rb), rc) :: t, p) :: T : List Hi).length := by simp
      obtain ⟨hn, hhn⟩ : ∃ hn, (((some ⟨b, o, none⟩, n + 1, c), ((ra, rb), rc) :: t, p) :: T : List Hi).length = hn := ⟨_, rfl⟩
      have HLH := hidM HL
      rw [hhn] at c0 hlp HLH
      by_cases hk : (ra, rb) = (ka, kb)
      · have hke : eqB (ra, rb) (ka, kb) = true := by rw [hk]; exact eqB_self _
        rw [hke] at he
        have hws1 : WS w0 (.slice (some ⟨b, o, none⟩) 1 c) [((ra, rb), rc)] := by
          obtain ⟨a2, cap2, e2, hs2⟩ := hit.ws
          injection e2 with e3 e4 e5
          rcases hs2 with hs2 | ⟨b2, o2, e6, hlt, hat⟩
          · cases hs2
          · rw [e6] at e3
            injection e3 with e3
            injection e3 with e3 e7
            subst e3 e7
            refine ⟨_, c, rfl, .inr ⟨b, o, rfl, hlt, fun i x hx => ?_⟩⟩
            match i, hx with
            | 0, hx => simp at hx; subst hx; exact hat 0 _ rfl
            | i + 1, hx => simp at hx
        have hc1 : 1 ≤ c := by omega
        have HAP := hidM (fun (W : World) (hW : Below wr.heap.size wr W) => by
          have h3 := hW.trans ((Below.refl W.heap.size W).alloc (Nat.le_refl _) (.cells #[.slice (some ⟨b, o, none⟩) 1 c] 37) |>.mono hW.size)
          have hcell : (W.alloc (.cells #[.slice (some ⟨b, o, none⟩) 1 c] 37)).cell? ⟨W.heap.size, 0, none⟩ = some (.slice (some ⟨b, o, none⟩) 1 c) := by
            have := heap_alloc_new W (.cells #[.slice (some ⟨b, o, none⟩) 1 c] 37)
            simp only [World.cell?, this]; rfl
          have L3 := HLH.out.below h3
          obtain ⟨v4, W4, u1, u2, u3, u4, u5, u6, u7⟩ := L3.own.app 22 hws1 hc1 hcell (by omega) (Nat.le_trans HLH.out.kp.1 h3.size)
          have hb4 : Below w0.heap.size w0 W4 := L3.hp.hr.bel.grown u3 L3.hp.hr.bel.size (fun k hk => Nat.le_trans (by have := HB0.out; omega) (u4 k hk))
          exact (⟨v4, W4, u1, u2, L3.hp.grow u5 u6 hb4, L3.kp.grown u3 u4, u7 _ _ ((KeepT.below h3) _ _ HNK)⟩ : ∃ v4 W4, (Builtin.append_ #[22, 22] 22 #[.slice a' X.length c', .slice (some ⟨W.heap.size, 0, none⟩) 1 1]).run Tryz.prog (W.alloc (.cells #[.slice (some ⟨b, o, none⟩) 1 c] 37)) = .ok v4 W4 ∧ OwnV w0 W4 w.heap.size v4 (X ++ [((ra, rb), rc)]) ∧ HP w0 W4 hb (.slice (some ⟨g, 0, none⟩) hn cap) (((some ⟨b, o, none⟩, n + 1, c), ((ra, rb), rc) :: t, p) :: T) ∧ Kp w W4 ∧ W4.heap[kp]? = some (.cells #[.int .i64 ka, .string kb] 66 (0, 0))))
        have HPASS := hidM (fun (W4 : World) (hp4 : HP w0 W4 hb (.slice (some ⟨g, 0, none⟩) hn cap) (((some ⟨b, o, none⟩, n + 1, c), ((ra, rb), rc) :: t, p) :: T)) => pass_any w0 W4 hb _ _ T _ _ t p hp4 rfl (by have := HLH.out.len; omega) (fun x hx => (HLH.out.rel.at_ x (List.mem_cons_of_mem _ hx)).1) HLH.out.heap)
        have HSTEP := hidM (fun (W4 W5 : World) (v4 : Value) (ho : OwnV w0 W4 w.heap.size v4 (X ++ [((ra, rb), rc)])) (hk4 : Kp w W4) (hp : Passed w0 W4 W5 hb T t p) => HLH.out.step (k := (ka, kb)) hk ho hk4 hp)
        clear HL HNK HR1 hc hit hxe hxR hk hke en a1 hbl hhn hws1 HLH
        rw [hXn] at HAP ⊢
        go_wp2
        go_quiet (fail)
        obtain ⟨v4, W4, u1, ho4, hp4, hk4, hn4⟩ := HAP.out (wr.drewN nq) (below_drewN (Below.refl _ _) nq)
        obtain ⟨a4, c4, e4⟩ := ho4.shape
        rw [List.length_append, hXn] at e4
        subst e4
        have U1 := hidM u1
        have HO4 := hidM ho4
        have HP4 := hidM hp4
        have HK4 := hidM hk4
        have HN4 := hidM hn4
        clear u1 ho4 hp4 hk4 hn4
        go_wp2_with (first
          | (at_builtin; refine wpList_append_run _ rfl _ _ _ rfl _ _ (.slice a4 (Xn + [((ra, rb), rc)].length) c4) W4 rfl rfl U1.out ?_)
          | (go_at_call 54; refine (HPASS.out W4 HP4.out).mono ?_; rintro e W5 ⟨rfl, hp5⟩))
        go_roundw
        case rel =>
          obtain ⟨v', H', hL'⟩ := HSTEP.out W4 W5 _ HO4.out HK4.out hp5
          have hn5 : W5.heap[kp]? = some (.cells #[.int .i64 ka, .string kb] 66 (0, 0)) := by
            obtain ⟨_, _, _, _, _, _, kk⟩ := hp5
            exact kk.2 _ (by decide) (by decide) _ _ HN4.out
          exact ⟨X ++ [((ra, rb), rc)], v', H', R.set p t, a4, c4, by rw [List.length_append, hXn]; rfl, hL'.hp.cell, by simp only [World.cell?, hn5]; rfl, by simp only [World.cell?, hn5]; rfl, hidM ⟨hL', hn5⟩⟩
        case measure => simp [sliceLen]; omega
      · have hke : eqB (ra, rb) (ka, kb) = false := by simp [eqB]; exact fun e1 e2 => hk (by rw [e1, e2])
        rw [hke] at he
        have HD := hidM (fun q => (HLH.out.below (below_drewN (Below.refl _ _) q)).done (fun x hx => by simp at hx; subst hx; exact hk))
        clear HL HNK HR1 hc hit hxe hxR hk hke en a1 hbl HLH hhn
        rw [hXn] at HD ⊢
        go_wp2
        go_quiet (fail)
        go_wp2
        go_ret
        exact ⟨_, rfl, HD.out _⟩
end Go.Proofs.YtaagllbcmgnbnaaGreatDoor
/- local: Merge. -/
namespace Go.Proofs.YtaagllbcmgnbnaaGreatDoor
open Go.RowKit Go.Shelf
set_option linter.unusedVariables false
set_option maxRecDepth 100000

theorem OwnX.xs {w : World} {base : Nat} {v : Value} {xs : List Raw} (h : OwnX w base v xs) : XS w v xs := by
  have h0 := h
  rcases h.2 with ⟨rfl, e⟩ | ⟨g, cap, cur, rfl, -, -⟩
  · have : xs = [] := List.length_eq_zero_iff.1 e
    subst this
    exact ⟨none, 0, rfl, .inl rfl⟩
  · obtain ⟨h1, -, -, h2⟩ := h0.cell
    exact ⟨_, cap, rfl, .inr ⟨g, 0, rfl, h1, fun j u hj => by rw [Nat.zero_add]; exact h2 j u hj⟩⟩
theorem AllW.appN {w : World} {base : Nat} {xs ys : List Raw} {l m : List Rw} (h : AllW w base xs l) (k : AllW w base ys m) : AllW w base (xs ++ ys) (l ++ m) := by
  refine ⟨by simp [h.1, k.1], fun i y s h1 h2 => ?_⟩
  by_cases hi : i < xs.length
  · rw [List.getElem?_append_left hi] at h1
    rw [List.getElem?_append_left (h.1 ▸ hi)] at h2
    exact h.2 i y s h1 h2
  · rw [List.getElem?_append_right (by omega)] at h1
    rw [List.getElem?_append_right (by have := h.1; omega), ← h.1] at h2
    exact k.2 _ y s h1 h2
theorem OwnW.app {W : World} {base base2 : Nat} {v u : Value} {l m : List Rw} (ty : TypeId) (h : OwnW W base v l) (hu : OwnW W base2 u m) (hb : base ≤ base2) (hl : l.length + m.length ≤ 1000000) (hB : base ≤ W.heap.size) :
    ∃ v' W', (Builtin.append_ #[37, 37] ty #[v, u]).run Tryz.prog W = .ok v' W' ∧ OwnW W' base v' (l ++ m) ∧ W.grownBy W' v.ownBlock ∧ (∀ k, v.ownBlock = some k → base ≤ k) ∧ KeepT 71 W W' ∧ KeepT 99 W W' := by
  obtain ⟨xs, hx, ha⟩ := h
  obtain ⟨ys, hy, hm⟩ := hu
  obtain ⟨v', W', h1, h2, h3, -⟩ := append_xs ty hx hy.xs (by rw [ha.1, hm.1]; exact hl) hB
  have k2 := keep_row hx h3
  exact ⟨v', W', h1, ⟨_, h2, (ha.keep k2).appN ((hm.lower hb).keep k2)⟩, h3, own_row hx, KeepT.row (by decide) hx h3, KeepT.row (by decide) hx h3⟩
theorem okRows_one {agg bound : Int} {l : List Rw} (h : okRows agg bound l = true) {x : Rw} (hx : x ∈ l) : okRows agg bound [x] = true := by
  obtain ⟨h1, h2, h3, h4⟩ := okRows_parts h
  obtain ⟨h5, h6⟩ := h3 x hx
  unfold okRows
  rw [h1, decide_eq_true (show [x].length ≤ 1536 by simp), decide_eq_true (show RiseK [x] by simp [RiseK])]
  simp [h5, h6]
theorem flat_ones (X : List Rw) : (X.map fun x => [x]).flatten = X := by induction X with
  | nil => rfl
  | cons a X ih => rw [List.map_cons, List.flatten_cons, ih]; rfl
theorem join_ones {agg bound : Int} {X : List Rw} {k : Ky} (hw : wayC agg bound = true) (ho : ∀ x ∈ X, okRows agg bound [x] = true) (hk : ∀ x ∈ X, x.1 = k) (h0 : X ≠ []) : joinRes agg bound (X.map fun x => [x]) = fin (gat (joinC agg bound.toNat) X) := by
  rw [joinRes_ok hw (fun r hr => by obtain ⟨x, hx, rfl⟩ := List.mem_map.1 hr; exact ho x hx) (by rw [flat_ones, gat_len1 hk h0]; omega), flat_ones]
/-- How far the merging is, in memory. -/
structure Mrg (w wr : World) (hb : Nat) (va v : Value) (agg bound : Int) (L R : List (List Rw)) (H : List Hi) (out : List Rw) (bad : Int) (n : Nat) : Prop where
  own : OwnW wr w.heap.size va out
  hp : HP w wr hb v H
  rel : HRel H R
  rise : ∀ l ∈ R, RiseK l
  heap : IsHp ltH H H.length 0
  mg : Mg (joinC agg bound.toNat) L R out bad n
  sub : ∀ y ∈ R.flatten, y ∈ L.flatten
  rlen : R.length = L.length
  hlen : H.length ≤ 1000
theorem OwnW.shape {w : World} {base : Nat} {v : Value} {l : List Rw} (h : OwnW w base v l) : ∃ a c, v = .slice a l.length c := h.slice
theorem joinRes_def {agg bound : Int} {L : List (List Rw)} (h : (wayC agg bound && L.all (okRows agg bound)) = false) : joinRes agg bound L = ([], 1) := by unfold joinRes; rw [h, Bool.false_and]; rfl
theorem Mrg.next {w wr W1 W3 : World} {hb : Nat} {va va' v rv : Value} {agg bound : Int} {L R : List (List Rw)} {H : List Hi} {out : List Rw} {bad : Int} {n : Nat} {x0 : Hi} (h : Mrg w wr hb va v agg bound L R H out bad n) (hx0 : H[0]? = some x0)
    (hl : LeastR w wr W1 hb rv R (hkey x0)) (k1 : KeepT 71 W1 W3) (k2 : KeepT 99 W1 W3) (hb3 : Below w.heap.size w W3) (ho : OwnW W3 w.heap.size va' (out ++ (fin (gat (joinC agg bound.toNat) (ofK (hkey x0) R.flatten))).1)) :
    ∃ v' H' R', Mrg w W3 hb va' v' agg bound L R' H' (out ++ (fin (gat (joinC agg bound.toNat) (ofK (hkey x0) R.flatten))).1) (if (fin (gat (joinC agg bound.toNat) (ofK (hkey x0) R.flatten))).2 = 0 then bad else (fin (gat (joinC agg bound.toNat) (ofK (hkey x0) R.flatten))).2) (n + 1) := by
  obtain ⟨v', H', R', l1, l2, l3⟩ := hl
  have hne : ofK (hkey x0) R.flatten ≠ [] := by
    obtain ⟨h1, h2⟩ := h.rel.at_ x0 (List.mem_of_getElem? hx0)
    obtain ⟨r, t, hr⟩ : ∃ r t, x0.2.1 = r :: t := by
      cases hc : x0.2.1 with
      | nil => exact absurd hc h1
      | cons r t => exact ⟨r, t, rfl⟩
    have hm : r ∈ ofK (hkey x0) R.flatten := mem_ofK.2 ⟨List.mem_flatten.2 ⟨_, List.mem_of_getElem? h2, by rw [hr]; simp⟩, by unfold hkey; rw [hr]⟩
    exact List.ne_nil_of_mem hm
  refine ⟨v', H', R', ho, l1.hp.grow k1 k2 hb3, l1.rel, l1.rise, l1.heap, h.mg.step hne l2 l1.others l3, fun y hy => ?_, l1.rlen.trans h.rlen, l1.len⟩
  have hyk : y.1 ≠ hkey x0 := fun e => by have := l3 y hy; rw [e, ltK_irrefl] at this; cases this
  have : y ∈ ofK y.1 R'.flatten := mem_ofK.2 ⟨hy, rfl⟩
  rw [← l1.others y.1 hyk] at this
  exact h.sub y (mem_ofK.1 this).1
set_option maxHeartbeats 4000000 in
theorem lmerge_any (agg bound : Int) (v : Value) (L : List (List Rw)) (w : World) (h : RnS w v L) (hL : ∀ l ∈ L, WfRs l) (hl : L.length ≤ 1000) (hls : ∀ l ∈ L, l.length ≤ 100000 ∧ ∀ r ∈ l, r.2.2.length ≤ 100000) :
    Calls Tryz.prog 17 #[.int .i64 agg, .int .i64 bound, v] w (RowsR w w.heap.size (joinRes agg bound L)) := by
  have HRO := hidM (runsof_any agg bound v L w h hL hl hls)
  obtain ⟨va, vc, rfl, -⟩ := h
  have HLW := hidM hL
  have HLS := hidM hls
  cases hok : (wayC agg bound && L.all (okRows agg bound)) with
  | false =>
    rw [joinRes_def hok]
    rw [hok] at HRO
    have hN := hidM (fun (W : World) (o : Obj) => (Below.refl W.heap.size W).alloc (Nat.le_refl _) o)
    clear hL hls hok
    go_enter Tryz.func17, Tryz.ntmps17
    go_wp2_with (go_at_call 32; refine HRO.out.mono ?_; rintro e W1 ⟨q1, -, hb1⟩; obtain rfl := q1 rfl; have HB1 := hidM hb1; clear hb1 q1)
    go_ret2
    exact ⟨⟨_, rfl, OwnW.nil _ _⟩, nxt HB1.out (hN.out _ _)⟩
  | true =>
    rw [hok] at HRO
    have hw : wayC agg bound = true := by rw [Bool.and_eq_true] at hok; exact hok.1
    have hall : ∀ l ∈ L, okRows agg bound l = true := by rw [Bool.and_eq_true, List.all_eq_true] at hok; exact hok.2
    have hrise : ∀ l ∈ L, RiseK l := fun l hl => (okRows_parts (hall l hl)).2.2.2
    have HONE := hidM (fun (x : Rw) (hx : x ∈ L.flatten) => by
      obtain ⟨l, hl, hxl⟩ := List.mem_flatten.1 hx
      exact (⟨okRows_one (hall l hl) hxl, hL l hl x hxl, (hls l hl).2 x hxl⟩ : okRows agg bound [x] = true ∧ WfR x ∧ x.2.2.length ≤ 100000))
    have HJ := hidM (fun (hle : (gat (joinC agg bound.toNat) L.flatten).1.length ≤ 1536) => joinRes_ok hw hall hle)
    have HJB := hidM (fun (hlt : 1536 < (gat (joinC agg bound.toNat) L.flatten).1.length) => (joinRes_big (agg := agg) (bound := bound) (L := L) (k := L.length) (by rw [List.take_length]; exact hlt)))
    have HW := hidM hw
    have HRISE := hidM hrise
    have hN := hidM (fun (W : World) (o : Obj) => (Below.refl W.heap.size W).alloc (Nat.le_refl _) o)
    have HLEN := hidM hl
    clear hL hls hok hw hall hrise
    go_enter Tryz.func17, Tryz.ntmps17
    go_wp2_with (go_at_call 32; refine HRO.out.mono ?_; rintro e W1 ⟨-, q1, hb1⟩; obtain ⟨v1, rfl, H0, r1, r2, r3, r4⟩ := q1 rfl; obtain ⟨a1, n1, c1, rfl⟩ := r1.row.slice; have HR1 := hidM r1; have HR2 := hidM r2; have HR3 := hidM r3; have HR4 := hidM r4; have HB1 := hidM hb1; clear hb1 q1 r1 r2 r3 r4)
    have hp0 : HP w (W1.alloc (.cells #[.slice a1 n1 c1] 71)) W1.heap.size (.slice a1 n1 c1) H0 := ⟨heap_alloc_new W1 _, HB1.out.size, HR1.out.below (hN.out _ _)⟩
    have HST := hidM (⟨OwnW.nil _ _, hp0, HR2.out, HRISE.out, HR3.out, Mg.start _ L, fun y hy => hy, rfl, by have := HR4.out; have := HLEN.out; omega⟩ : Mrg w (W1.alloc (.cells #[.slice a1 n1 c1] 71)) W1.heap.size (.slice none 0 0) (.slice a1 n1 c1) agg bound L L H0 [] 0 0)
    have c0 := hp0.cell
    clear hp0
    generalize W1.alloc (.cells #[.slice a1 n1 c1] 71) = W2 at HST c0 ⊢
    generalize W1.heap.size = hb at HST c0 ⊢
    go_loopw [10, 11, 12] (fun vo vb vk wr => ∃ (out : List Rw) (bad : Int) (n : Nat) (v : Value) (H : List Hi) (R : List (List Rw)) (a' : Option Addr) (c' : Nat), vo = .slice a' out.length c' ∧ vb = .int .i64 bad ∧ vk = .int .i64 n ∧ n ≤ 1536 ∧ wr.cell? ⟨hb, 0, none⟩ = some v ∧ Hid (Mrg w wr hb (.slice a' out.length c') v agg bound L R H out bad n)) (fun _ _ vk _ => 1537 - (intOf vk).toNat)
    case atStart => exact ⟨[], 0, 0, _, H0, L, none, 0, rfl, rfl, rfl, by omega, c0, HST⟩
    case round =>
      clear c0 HST HR1 HR2 HR3 HR4 HB1
      obtain ⟨out, bad, n, v, H, R, a', c', rfl, rfl, rfl, hn6, c0, HM⟩ := hrel
      obtain ⟨on, hon⟩ : ∃ on, out.length = on := ⟨_, rfl⟩
      cases H with
      | nil =>
        obtain ⟨vx, vn, vcc, rfl, hvn⟩ : ∃ a n c, v = .slice a n c ∧ n = 0 := by
          rcases ownH_row HM.out.hp.hr.row with ⟨e, -⟩ | ⟨g, cap, cur, e, -⟩
          · exact ⟨_, _, _, e, rfl⟩
          · exact ⟨_, _, _, e, rfl⟩
        subst hvn
        obtain ⟨d1, d2⟩ := HM.out.mg.done (HM.out.rel.nil)
        have d3 := HJ.out (by omega)
        rw [d1] at d3
        have HOWN := hidM HM.out.own
        have HBEL := hidM HM.out.hp.hr.bel
        rw [hon] at HOWN ⊢
        by_cases hb0 : bad = 0
        · subst hb0
          rw [if_pos rfl] at d3
          have D3 := hidM d3
          clear d1 d2 d3 HM HJ HJB
          go_wp2
          go_ret2
          exact ⟨⟨_, by rw [D3.out]; rfl, by rw [D3.out]; exact HOWN.out⟩, HBEL.out⟩
        · rw [if_neg hb0] at d3
          have D3 := hidM d3
          have hbn : (bad == 0) = false := beq_eq_false_iff_ne.2 hb0
          clear d1 d2 d3 HM HJ HJB
          go_wp2
          go_ret2
          exact ⟨⟨.slice none 0 0, by rw [D3.out]; rfl, by rw [D3.out]; exact OwnW.nil _ _⟩, HBEL.out⟩
      | cons x T =>
        obtain ⟨g, cap, rfl⟩ : ∃ g cap, v = .slice (some ⟨g, 0, none⟩) (x :: T).length cap := by
          rcases ownH_row HM.out.hp.hr.row with ⟨-, e⟩ | ⟨g, cap, cur, e, -⟩
          · cases e
          · exact ⟨g, cap, e⟩
        have hRne : R.flatten ≠ [] := by
          obtain ⟨h1, h2⟩ := HM.out.rel.at_ x (List.mem_cons_self)
          intro e
          rw [List.flatten_eq_nil_iff] at e
          exact h1 (e _ (List.mem_of_getElem? h2))
        have hlp : 0 < (x :: T).length := by simp
        have HLE := hidM (least_any w wr hb _ (x :: T) R x HM.out.hp HM.out.rel HM.out.rise HM.out.heap HM.out.hlen (by rw [HM.out.rlen]; exact HLEN.out) rfl)
        obtain ⟨hn, hhn⟩ : ∃ hn, (x :: T).length = hn := ⟨_, rfl⟩
        by_cases hn5 : n = 1536
        · subst hn5
          have D3 := hidM (HJB.out (HM.out.mg.more hRne))
          have HBEL := hidM HM.out.hp.hr.bel
          rw [hhn] at c0 hlp
          clear HM HJ HJB hRne HLE hhn
          rw [hon]
          go_wp2
          go_ret2
          exact ⟨⟨.slice none 0 0, by rw [D3.out]; rfl, by rw [D3.out]; exact OwnW.nil _ _⟩, HBEL.out⟩
        · have hn7 : n < 1536 := by omega
          have hXne : ofK (hkey x) R.flatten ≠ [] := by
            obtain ⟨h1, h2⟩ := HM.out.rel.at_ x (List.mem_cons_self)
            obtain ⟨r, t, hr⟩ : ∃ r t, x.2.1 = r :: t := by
              cases hc : x.2.1 with
              | nil => exact absurd hc h1
              | cons r t => exact ⟨r, t, rfl⟩
            have hm : r ∈ ofK (hkey x) R.flatten := mem_ofK.2 ⟨List.mem_flatten.2 ⟨_, List.mem_of_getElem? h2, by rw [hr]; simp⟩, by unfold hkey; rw [hr]⟩
            exact List.ne_nil_of_mem hm
          have hXk : ∀ y ∈ ofK (hkey x) R.flatten, y.1 = hkey x := fun y hy => (mem_ofK.1 hy).2
          have hXo : ∀ y ∈ ofK (hkey x) R.flatten, okRows agg bound [y] = true ∧ WfR y ∧ y.2.2.length ≤ 100000 := fun y hy => HONE.out y (HM.out.sub y (mem_ofK.1 hy).1)
          have hXl : (ofK (hkey x) R.flatten).length ≤ 1000 := Nat.le_trans (ofK_len HM.out.rise) (by rw [HM.out.rlen]; exact HLEN.out)
          have hG1 := gat_len1 (J := joinC agg bound.toNat) hXk hXne
          have hJ1 := join_ones HW.out (fun y hy => (hXo y hy).1) hXk hXne
          obtain ⟨F, hF⟩ : ∃ F, fin (gat (joinC agg bound.toNat) (ofK (hkey x) R.flatten)) = F := ⟨_, rfl⟩
          have hF1 : F.1.length ≤ 1 := by
            rw [← hF]
            unfold fin
            split
            · omega
            · simp
          rw [hF] at hJ1
          have HJN := hidM (fun (W1 : World) (rv : Value) (hle : LeastR w wr W1 hb rv R (hkey x)) => by
            obtain ⟨v', H', R', l1, -, -⟩ := hle
            have hj := joins_anyT agg bound rv ((ofK (hkey x) R.flatten).map fun x => [x]) W1 (l1.own.rns l1.hp.hr.bel) (fun l hl => by
              obtain ⟨y, hy, rfl⟩ := List.mem_map.1 hl
              exact fun r hr => by simp at hr; subst hr; exact (hXo _ hy).2.1) (by rw [List.length_map]; omega) (fun k _ => by
              rw [← List.map_take, flat_ones]
              have := List.length_take_le k (ofK (hkey x) R.flatten)
              have := List.length_take_le' k (ofK (hkey x) R.flatten)
              omega) (fun l hl => by
              obtain ⟨y, hy, rfl⟩ := List.mem_map.1 hl
              exact ⟨by simp, fun r hr => by simp at hr; subst hr; exact (hXo _ hy).2.2⟩)
            rw [hJ1] at hj
            exact (hj : Calls Tryz.prog 33 #[.int .i64 agg, .int .i64 bound, rv] W1 (RowsR W1 W1.heap.size F)))
          have HNX := hidM (fun (W1 W2 : World) (rv v2 : Value) (hle : LeastR w wr W1 hb rv R (hkey x)) (hb2 : Below W1.heap.size W1 W2) (ho2 : OwnW W2 W1.heap.size v2 F.1) => by
            have hle0 := hle
            obtain ⟨v', H', R', l1, -, -⟩ := hle
            have hs1 : w.heap.size ≤ W1.heap.size := Nat.le_trans HM.out.hp.hr.bel.size l1.kp.1
            have hoA : OwnW W2 w.heap.size (.slice a' out.length c') out := (HM.out.own.kp l1.kp).below hb2
            have hbW2 : Below w.heap.size w W2 := l1.hp.hr.bel.trans (hb2.mono hs1)
            obtain ⟨v4, W4, u1, u2, u3, u4, u5, u6⟩ := hoA.app 37 ho2 hs1 (by have := HM.out.mg.out; omega) (Nat.le_trans hs1 hb2.size)
            have hb4 : Below w.heap.size w W4 := hbW2.grown u3 hbW2.size u4
            have k1 : KeepT 71 W1 W4 := fun g cur hg => u5 g cur ((KeepT.below hb2) g cur hg)
            have k2 : KeepT 99 W1 W4 := fun g cur hg => u6 g cur ((KeepT.below hb2) g cur hg)
            have hmx := HM.out.next (va' := v4) (x0 := x) rfl hle0 k1 k2 hb4 (by rw [hF]; exact u2)
            rw [hF] at hmx
            exact (⟨v4, W4, u1, u2, hmx⟩ : ∃ v4 W4, (Builtin.append_ #[37, 37] 37 #[.slice a' out.length c', v2]).run Tryz.prog W2 = .ok v4 W4 ∧ OwnW W4 w.heap.size v4 (out ++ F.1) ∧ ∃ v' H' R', Mrg w W4 hb v4 v' agg bound L R' H' (out ++ F.1) (if F.2 = 0 then bad else F.2) (n + 1)))
          obtain ⟨F1, F2⟩ := F
          simp only at hF1 HJN HNX
          rw [hhn] at c0 hlp
          rw [hon] at HNX ⊢
          clear HM HJ HJB hRne hhn hXne hXk hXo hXl hG1 hJ1 hF HONE
          by_cases he : F2 = 0
          · subst he
            go_wp2_with (first
              | (go_at_call 34; refine HLE.out.mono ?_; rintro e W1 ⟨rv, rfl, hle⟩; have HLX := hidM hle; clear hle)
              | (go_at_call 33; refine (HJN.out _ _ HLX.out).mono ?_; rintro e W2 ⟨⟨v2, rfl, ho2⟩, hb2⟩; obtain ⟨v4, W4, u1, u2, hmx⟩ := HNX.out _ _ _ _ HLX.out hb2 ho2; obtain ⟨a2, k2, rfl⟩ := ho2.slice; obtain ⟨a4, k4, e4⟩ := u2.slice; rw [List.length_append, hon] at e4; subst e4; have U1 := hidM u1; have HMX := hidM hmx; clear u1 u2 hmx ho2 hb2)
              | (at_builtin; refine wpList_append_run _ rfl _ _ _ rfl _ _ (.slice a4 (on + F1.length) k4) W4 rfl rfl U1.out ?_))
            go_roundw
            case rel =>
              obtain ⟨v', H', R', hm'⟩ := HMX.out
              rw [if_pos trivial] at hm'
              have hlen' : (out ++ F1).length = on + F1.length := by rw [List.length_append, hon]
              exact ⟨out ++ F1, bad, n + 1, v', H', R', a4, k4, by rw [hlen'], rfl, by go_num, by omega, hm'.hp.cell, hidM (by rw [hlen']; exact hm')⟩
            case measure => simp [intOf]; omega
          · have hen : (F2 == 0) = false := beq_eq_false_iff_ne.2 he
            have hen2 : (F2 != 0) = true := by simp [he]
            go_wp2_with (first
              | (go_at_call 34; refine HLE.out.mono ?_; rintro e W1 ⟨rv, rfl, hle⟩; have HLX := hidM hle; clear hle)
              | (go_at_call 33; refine (HJN.out _ _ HLX.out).mono ?_; rintro e W2 ⟨⟨v2, rfl, ho2⟩, hb2⟩; obtain ⟨v4, W4, u1, u2, hmx⟩ := HNX.out _ _ _ _ HLX.out hb2 ho2; obtain ⟨a2, k2, rfl⟩ := ho2.slice; obtain ⟨a4, k4, e4⟩ := u2.slice; rw [List.length_append, hon] at e4; subst e4; have U1 := hidM u1; have HMX := hidM hmx; clear u1 u2 hmx ho2 hb2)
              | (at_builtin; refine wpList_append_run _ rfl _ _ _ rfl _ _ (.slice a4 (on + F1.length) k4) W4 rfl rfl U1.out ?_))
            go_roundw
            case rel =>
              obtain ⟨v', H', R', hm'⟩ := HMX.out
              rw [if_neg he] at hm'
              have hlen' : (out ++ F1).length = on + F1.length := by rw [List.length_append, hon]
              exact ⟨out ++ F1, F2, n + 1, v', H', R', a4, k4, by rw [hlen'], rfl, by go_num, by omega, hm'.hp.cell, hidM (by rw [hlen']; exact hm')⟩
            case measure => simp [intOf]; omega
end Go.Proofs.YtaagllbcmgnbnaaGreatDoor
