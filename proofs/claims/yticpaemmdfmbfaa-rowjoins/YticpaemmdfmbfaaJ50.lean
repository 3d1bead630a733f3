/- Rows of one's own, written over: thresherlaw0.Rows. -/
import Derived.Test.YticpaemmdfmbfaaJ49
namespace Go.Proofs.Yticpaemmdfmbfaa
open Go.RowKit
set_option linter.unusedVariables false

/-- A set's slice: empty, or a row of numbers of the call's own. -/
def SetOk (w : World) (base : Nat) (s : Sl) : Prop := s.2.1 = 0 ∨ ∃ (g : Nat) (cur : Array Value), s.1 = some ⟨g, 0, none⟩ ∧ base ≤ g ∧ w.heap[g]? = some (.cells cur 2 (0, 0)) ∧ s.2.1 ≤ cur.size
theorem SetOk.own {w : World} {base : Nat} {s : Sl} {l : List Int} (h : OwnL w base (slV s) l) : SetOk w base s := by
  obtain ⟨sa, sn, sc⟩ := s
  rcases h.2 with ⟨h1, h2⟩ | ⟨g, cap, cur, h1, hg, hb, hn, hm, hs, ht⟩
  · injection h1 with e1 e2 e3
    exact .inl e2
  · injection h1 with e1 e2 e3
    subst e1 e2
    exact .inr ⟨g, cur, rfl, hg, hb, by simp only; omega⟩
theorem SetOk.keep {w w' : World} {base : Nat} {s : Sl} (h : SetOk w base s) (k : KeepT 2 w w') : SetOk w' base s := by
  rcases h with h | ⟨g, cur, h1, h2, h3, h4⟩
  · exact .inl h
  · exact .inr ⟨g, cur, h1, h2, k g cur h3, h4⟩
theorem SetOk.set {w : World} {base g o : Nat} {cur : Array Value} {s : Sl} {u : Value} (h : SetOk w base s) (hb : w.heap[g]? = some (.cells cur 2 (0, 0))) : SetOk (w.setCell ⟨g, o, none⟩ u) base s := by
  rcases h with h | ⟨g', cur', h1, h2, h3, h4⟩
  · exact .inl h
  · by_cases e : g' = g
    · subst e
      rw [hb] at h3
      injection h3 with h3
      injection h3 with h3
      subst h3
      exact .inr ⟨g', cur.setIfInBounds o u, h1, h2, by simp [World.setCell, Array.getElem?_modify, hb], by simpa using h4⟩
    · refine .inr ⟨g', cur', h1, h2, ?_, h4⟩
      rw [Below.heap_setCell _ _ _ _ e]
      exact h3
theorem keepT_set {T T' : TypeId} (hT : T ≠ T') {w : World} {g o : Nat} {cur : Array Value} {u : Value} (hb : w.heap[g]? = some (.cells cur T' (0, 0))) : KeepT T w (w.setCell ⟨g, o, none⟩ u) := fun g' cur' h => by
  have e : g' ≠ g := fun e => by
    subst e
    rw [hb] at h
    injection h with h
    injection h with _ h
    exact hT h.symm
  rw [Below.heap_setCell _ _ _ _ e]
  exact h
theorem set_type {w : World} {g o : Nat} {cur : Array Value} {T : TypeId} {u : Value} (hb : w.heap[g]? = some (.cells cur T (0, 0))) : (w.setCell ⟨g, o, none⟩ u).heap[g]? = some (.cells (cur.setIfInBounds o u) T (0, 0)) := by
  simp [World.setCell, Array.getElem?_modify, hb]
/-- Nothing below a place has been written. -/
theorem bel_set {w W : World} {B b o : Nat} (h : Below B w W) (hb : B ≤ b) (u : Value) : Below B w (W.setCell ⟨b, o, none⟩ u) := by
  refine ⟨h.os, h.tape, h.output, by simp [World.setCell]; exact h.size, fun k hk => ?_⟩
  rw [Below.heap_setCell _ _ _ _ (by show k ≠ b; omega)]
  exact h.block k hk
/-- A row that holds nothing. -/
abbrev noRaw : Raw := ((0, ⟨#[]⟩), 0, (none, 0, 0))
theorem flatW_none (xs : List Raw) (p : Nat) (x : Raw) (hx : xs[p]? = some x) : flatW (xs.set p noRaw) = ((((flatW xs).set (p * 4) (.int .i64 0)).set (p * 4 + 1) (.string ⟨#[]⟩)).set (p * 4 + 2) (.int .i64 0)).set (p * 4 + 3) (.slice none 0 0) := by
  induction xs generalizing p with
  | nil => simp at hx
  | cons a l ih =>
    cases p with
    | zero => rfl
    | succ p =>
      have hx' : l[p]? = some x := by simpa using hx
      rw [List.set_cons_succ]
      show encW a ++ flatW (l.set p noRaw) = (((((encW a ++ flatW l).set ((p + 1) * 4) (.int .i64 0)).set ((p + 1) * 4 + 1) (.string ⟨#[]⟩)).set ((p + 1) * 4 + 2) (.int .i64 0)).set ((p + 1) * 4 + 3) (.slice none 0 0))
      rw [ih p hx']
      have e0 : (p + 1) * 4 = (encW a).length + (p * 4) := by simp [encW]; omega
      have e1 : (p + 1) * 4 + 1 = (encW a).length + (p * 4 + 1) := by simp [encW]; omega
      have e2 : (p + 1) * 4 + 2 = (encW a).length + (p * 4 + 2) := by simp [encW]; omega
      have e3 : (p + 1) * 4 + 3 = (encW a).length + (p * 4 + 3) := by simp [encW]; omega
      rw [e1, e2, e3, e0, List.set_append_right _ _ (by omega), List.set_append_right _ _ (by omega), List.set_append_right _ _ (by omega), List.set_append_right _ _ (by omega)]
      simp
/-- What lies there while it is written over. -/
structure Wip (w : World) (base : Nat) (g n cap : Nat) (xs : List Raw) : Prop where
  own : OwnX w base (.slice (some ⟨g, 0, none⟩) n cap) xs
  sets : ∀ x ∈ xs, SetOk w base x.2.2
theorem Wip.block {w : World} {base g n cap : Nat} {xs : List Raw} (h : Wip w base g n cap xs) : base ≤ g ∧ n = xs.length ∧ ∃ cur : Array Value, w.heap[g]? = some (.cells cur 67 (0, 0)) ∧ xs.length * 4 ≤ cur.size ∧ cur.toList.take (xs.length * 4) = flatW xs := by
  rcases h.own.2 with ⟨h1, _⟩ | ⟨g', cap', cur, h1, hg, hb, hn, hm, hs, ht⟩
  · cases h1
  · injection h1 with e1 e2 e3
    injection e1 with e1
    injection e1 with e1
    subst e1 e2 e3
    exact ⟨hg, rfl, cur, hb, by omega, ht⟩
theorem Wip.cells {w : World} {base g n cap p : Nat} {xs : List Raw} {x : Raw} (h : Wip w base g n cap xs) (hx : xs[p]? = some x) :
    w.cell? ⟨g, p * 4, none⟩ = some (.int .i64 x.1.1) ∧ w.cell? ⟨g, p * 4 + 1, none⟩ = some (.string x.1.2) ∧ w.cell? ⟨g, p * 4 + 2, none⟩ = some (.int .i64 x.2.1) ∧ w.cell? ⟨g, p * 4 + 3, none⟩ = some (slV x.2.2) ∧ ∀ q, w.frozen? ⟨g, q, none⟩ = false := by
  obtain ⟨-, -, cur, hb, -, -⟩ := h.block
  obtain ⟨q0, q1, q2, q3⟩ := flatW_get xs p x hx
  obtain ⟨-, -, -, hc⟩ := h.own.cell
  exact ⟨hc _ _ q0, hc _ _ q1, hc _ _ q2, hc _ _ q3, fun q => by simp [World.frozen?, hb]⟩
theorem Wip.num {w : World} {base g n cap g2 j : Nat} {xs : List Raw} {u : Value} {cur : Array Value} (h : Wip w base g n cap xs) (hb : w.heap[g2]? = some (.cells cur 2 (0, 0))) : Wip (w.setCell ⟨g2, j, none⟩ u) base g n cap xs :=
  ⟨h.own.keepT (keepT_set (by decide) hb), fun x hx => (h.sets x hx).set hb⟩
theorem Wip.row {w : World} {base g n cap p : Nat} {xs : List Raw} {x : Raw} (h : Wip w base g n cap xs) (hx : xs[p]? = some x) :
    Wip ((((w.setCell ⟨g, p * 4, none⟩ (.int .i64 0)).setCell ⟨g, p * 4 + 1, none⟩ (.string ⟨#[]⟩)).setCell ⟨g, p * 4 + 2, none⟩ (.int .i64 0)).setCell ⟨g, p * 4 + 3, none⟩ (.slice none 0 0)) base g n cap (xs.set p noRaw) := by
  obtain ⟨hg, hn, cur, hb, hs, ht⟩ := h.block
  have b1 := set_type (o := p * 4) (u := .int .i64 0) hb
  have b2 := set_type (o := p * 4 + 1) (u := .string ⟨#[]⟩) b1
  have b3 := set_type (o := p * 4 + 2) (u := .int .i64 0) b2
  have b4 := set_type (o := p * 4 + 3) (u := .slice none 0 0) b3
  refine ⟨?_, fun y hy => ?_⟩
  · rcases h.own.2 with ⟨h1, _⟩ | ⟨g', cap', cur', h1, hg', hb', hn', hm', hs', ht'⟩
    · cases h1
    · injection h1 with e1 e2 e3
      injection e1 with e1
      injection e1 with e1
      subst e1 e2 e3
      rw [hb] at hb'
      injection hb' with hb'
      injection hb' with hb'
      subst hb'
      refine ⟨by rw [flatW_len], .inr ⟨g, cap, _, by rw [List.length_set], hg, b4, by rw [List.length_set]; exact hn', hm', by simp [hs'], ?_⟩⟩
      rw [List.length_set, flatW_none xs p x hx, ← ht]
      simp only [Array.toList_setIfInBounds]
      rw [List.take_set, List.take_set, List.take_set, List.take_set]
  · rcases List.mem_or_eq_of_mem_set hy with hy | rfl
    · exact ((((h.sets y hy).keep (keepT_set (by decide) hb)).keep (keepT_set (by decide) b1)).keep (keepT_set (by decide) b2)).keep (keepT_set (by decide) b3)
    · exact .inl rfl
end Go.Proofs.Yticpaemmdfmbfaa
namespace Go.Proofs.Yticpaemmdfmbfaa
open Go.RowKit
set_option linter.unusedVariables false
set_option maxRecDepth 100000

set_option maxHeartbeats 1600000 in
theorem wipeRows_any (base : Nat) (v : Value) (l : List Rw) (w : World) (h : OwnW w base v l) (hl : l.length ≤ 100000) (hls : ∀ r ∈ l, r.2.2.length ≤ 100000) :
    Calls Try.prog 22 #[v] w fun e w' => e = .returned (.tuple #[]) ∧ Below base w w' := by
  obtain ⟨xs0, hx0, ha0⟩ := h
  have hxl : xs0.length ≤ 100000 := by rw [ha0.1]; exact hl
  rcases hx0.2 with ⟨rfl, h0⟩ | ⟨g, cap, cur, rfl, _⟩
  · go_enter Try.func22, Try.ntmps22
    go_wp2
    go_loop [2] (fun i => i = .int .i64 0) (fun _ => 0)
    case atStart => rfl
    case round =>
      subst hrel
      go_wp2
      go_end0
      exact ⟨rfl, Below.refl _ _⟩
  · have HW := hidM (show Wip w base g xs0.length cap xs0 from ⟨hx0, fun x hx => by
      obtain ⟨i, hi⟩ := List.getElem?_of_mem hx
      obtain ⟨r, hr⟩ := getSome (l := l) (i := i) (by rw [← ha0.1]; exact (List.getElem?_eq_some_iff.1 hi).1)
      exact SetOk.own (ha0.2 i x r hi hr).s⟩)
    have HSL := hidM (show ∀ x ∈ xs0, x.2.2.2.1 ≤ 100000 from fun x hx => by
      obtain ⟨i, hi⟩ := List.getElem?_of_mem hx
      obtain ⟨r, hr⟩ := getSome (l := l) (i := i) (by rw [← ha0.1]; exact (List.getElem?_eq_some_iff.1 hi).1)
      obtain ⟨a, c, e, -⟩ := OwnL.ns (ha0.2 i x r hi hr).s
      injection e with e1 e2 e3
      rw [e2]
      exact hls r (List.mem_of_getElem? hr))
    clear ha0 hx0 hl hls
    generalize xs0.length = n at hxl HW
    go_enter Try.func22, Try.ntmps22
    go_wp2
    go_loopw [2] (fun i wr => ∃ k : Nat, k ≤ n ∧ i = .int .i64 k ∧ Hid (∃ xs : List Raw, Wip wr base g n cap xs ∧ (∀ x ∈ xs, x.2.2.2.1 ≤ 100000) ∧ Below base w wr)) (fun i _ => n - (intOf i).toNat)
    case atStart => exact ⟨0, by omega, rfl, xs0, HW.out, HSL.out, Below.refl _ _⟩
    case round =>
      rename World => w0
      obtain ⟨k, hk, rfl, HH⟩ := hrel
      by_cases hlt : k < n
      · obtain ⟨xs, hw, hsl, hbel⟩ := HH.out
        obtain ⟨-, hn, -⟩ := hw.block
        obtain ⟨⟨⟨ya, yb⟩, yn, sa, sn, sc⟩, hx⟩ := getSome (l := xs) (i := k) (by omega)
        have hsn : sn ≤ 100000 := hsl _ (List.mem_of_getElem? hx)
        have HX := hidM hx
        have HSL2 := hidM hsl
        have hkn0 : (0 : Int) ≤ (k : Int) := by omega
        have hkn : (k : Int) < (n : Int) := by omega
        have HI := hidM (show Wip w0 base g n cap xs ∧ Below base w w0 from ⟨hw, hbel⟩)
        clear hw hbel hsl hn hx HH
        go_wp2
        go_loopw [3] (fun i wr => ∃ j : Nat, j ≤ sn ∧ i = .int .i64 j ∧ Hid (Wip wr base g n cap xs ∧ Below base w wr)) (fun i _ => sn - (intOf i).toNat)
        case atStart => exact ⟨0, by omega, rfl, HI⟩
        case round =>
          rename World => w1
          obtain ⟨j, hj, rfl, HJ⟩ := hrel
          obtain ⟨c0, c1, c2, c3, fz⟩ := HJ.out.1.cells HX.out
          simp only at c0 c1 c2
          replace c3 : w1.cell? ⟨g, k * 4 + 3, none⟩ = some (.slice sa sn sc) := c3
          by_cases hjl : j < sn
          · obtain ⟨g2, cur2, e2, hg2, hb2, hs2⟩ : ∃ (g2 : Nat) (cur2 : Array Value), sa = some ⟨g2, 0, none⟩ ∧ base ≤ g2 ∧ w1.heap[g2]? = some (.cells cur2 2 (0, 0)) ∧ sn ≤ cur2.size := by
              rcases HJ.out.1.sets _ (List.mem_of_getElem? HX.out) with h | h
              · simp only at h; omega
              · exact h
            subst e2
            have hf2 : w1.frozen? ⟨g2, j, none⟩ = false := by simp [World.frozen?, hb2]
            obtain ⟨z, hz⟩ : ∃ z, w1.cell? ⟨g2, j, none⟩ = some z := ⟨cur2[j]'(by omega), by simp only [World.cell?, hb2]; simp [show j < cur2.size by omega]⟩
            have HR := hidM (show Wip (w1.setCell ⟨g2, j, none⟩ (.int .i64 (-99))) base g n cap xs ∧ Below base w (w1.setCell ⟨g2, j, none⟩ (.int .i64 (-99))) from ⟨HJ.out.1.num hb2, bel_set HJ.out.2 hg2 _⟩)
            have hj0 : (0 : Int) ≤ (j : Int) := by omega
            have hjn : (j : Int) < (sn : Int) := by omega
            clear hb2 hs2 HJ HI
            go_wp2
            go_roundw
            case rel => exact ⟨j + 1, by omega, by go_num, HR⟩
            case measure => simp [intOf]; omega
          · have hjl' : sn ≤ j := by omega
            have HR := hidM (HJ.out.1.row HX.out)
            have HB := hidM HJ.out.2
            have hbg := HJ.out.1.block.1
            clear HJ HI
            go_wp2
            go_roundw
            case rel => exact ⟨k + 1, by omega, by go_num, _, HR.out, fun x hx => by
              rcases List.mem_or_eq_of_mem_set hx with hx | rfl
              · exact HSL2.out x hx
              · exact Nat.zero_le _, bel_set (bel_set (bel_set (bel_set HB.out hbg _) hbg _) hbg _) hbg _⟩
            case measure => simp [intOf]; omega
      · have hlt' : n ≤ k := by omega
        obtain ⟨xs, -, -, hbel⟩ := HH.out
        clear HH
        go_wp2
        go_end0
        exact ⟨rfl, hbel⟩
end Go.Proofs.Yticpaemmdfmbfaa
