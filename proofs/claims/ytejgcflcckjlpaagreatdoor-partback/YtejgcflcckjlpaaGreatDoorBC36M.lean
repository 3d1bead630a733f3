/- Texts laid together: YtejgcflcckjlpaaGreatDoorBC36, YtejgcflcckjlpaaGreatDoorBC37. -/
import Derived.Test.YtejgcflcckjlpaaGreatDoorBC33M
import Derived.Test.YtejgcflcckjlpaaGreatDoorBC27
import Derived.Test.YtejgcflcckjlpaaGreatDoorBC29
import Derived.Test.YtejgcflcckjlpaaGreatDoorBC35
/- Texts laid together: WRGatF, WROrd, WChkX. -/
/- The page's own gather. -/
namespace Go.Proofs.YtejgcflcckjlpaaGreatDoor
open Go.RowKit
set_option linter.unusedVariables false

/-- The place found so far. -/
structure Found (st : List Rw) (k : Ky) (p q : Nat) : Prop where
  pq : p ≤ q
  ql : q ≤ st.length
  lo : ∀ y ∈ st.take p, ltK y.1 k = true
  hi : ∀ y ∈ st.drop q, ltK y.1 k = false
theorem Found.start (st : List Rw) (k : Ky) : Found st k 0 st.length := ⟨Nat.zero_le _, Nat.le_refl _, by simp, by simp⟩
theorem rise_at {st : List Rw} (hr : RiseK st) {i j : Nat} {x y : Rw} (hi : st[i]? = some x) (hj : st[j]? = some y) (h : i < j) : ltK x.1 y.1 = true := by
  obtain ⟨h1, rfl⟩ := List.getElem?_eq_some_iff.1 hi
  obtain ⟨h2, rfl⟩ := List.getElem?_eq_some_iff.1 hj
  exact (List.pairwise_iff_getElem.1 hr) i j h1 h2 h
theorem Found.right {st : List Rw} {k : Ky} {p q m : Nat} {x : Rw} (h : Found st k p q) (hr : RiseK st) (hx : st[m]? = some x) (hm : m < q) (hlt : ltK x.1 k = true) : Found st k (m + 1) q := by
  refine ⟨hm, h.ql, fun y hy => ?_, h.hi⟩
  obtain ⟨i, hi⟩ := List.getElem?_of_mem hy
  have hil := (List.getElem?_eq_some_iff.1 hi).1
  rw [List.length_take] at hil
  rw [List.getElem?_take_of_lt (by omega)] at hi
  by_cases e : i = m
  · subst e
    rw [hx] at hi
    injection hi with hi
    subst hi
    exact hlt
  · exact ltK_trans (rise_at hr hi hx (by omega)) hlt
theorem Found.left {st : List Rw} {k : Ky} {p q m : Nat} {x : Rw} (h : Found st k p q) (hr : RiseK st) (hx : st[m]? = some x) (hm : p ≤ m) (hq : m < q) (hlt : ltK x.1 k = false) : Found st k p m := by
  refine ⟨hm, by have := h.ql; omega, h.lo, fun y hy => ?_⟩
  obtain ⟨i, hi⟩ := List.getElem?_of_mem hy
  rw [List.getElem?_drop] at hi
  by_cases e : i = 0
  · subst e
    rw [Nat.add_zero, hx] at hi
    injection hi with hi
    subst hi
    exact hlt
  · have h1 := rise_at hr hx hi (by omega)
    cases h2 : ltK y.1 k
    · rfl
    · rw [ltK_trans h1 h2] at hlt; cases hlt
theorem cfK_neg {x y : Ky} : decide (cfK x y < 0) = ltK x y := cfK_lt0 x y
/-- A cell of one row set anew. -/
theorem flatW_set (xs : List Raw) (p : Nat) (x : Raw) (n : Int) (s : Sl) (hx : xs[p]? = some x) : flatW (xs.set p (x.1, n, s)) = ((flatW xs).set (p * 4 + 2) (.int .i64 n)).set (p * 4 + 3) (slV s) := by
  induction xs generalizing p with
  | nil => simp at hx
  | cons a l ih =>
    cases p with
    | zero => simp at hx; subst hx; rfl
    | succ p =>
      have hx' : l[p]? = some x := by simpa using hx
      rw [List.set_cons_succ]
      show encW a ++ flatW (l.set p (x.1, n, s)) = ((encW a ++ flatW l).set ((p + 1) * 4 + 2) (.int .i64 n)).set ((p + 1) * 4 + 3) (slV s)
      rw [ih p hx']
      have e1 : (p + 1) * 4 + 2 = (encW a).length + (p * 4 + 2) := by simp [encW]; omega
      have e2 : (p + 1) * 4 + 3 = (encW a).length + (p * 4 + 3) := by simp [encW]; omega
      rw [e1, e2, List.set_append_right _ _ (by omega), List.set_append_right _ _ (by omega)]
      simp
theorem OwnX.set {w : World} {base g cap n0 : Nat} {xs : List Raw} {p : Nat} {x : Raw} (h : OwnX w base (.slice (some ⟨g, 0, none⟩) n0 cap) xs) (hx : xs[p]? = some x) (n : Int) (s : Sl) :
    OwnX ((w.setCell ⟨g, p * 4 + 2, none⟩ (.int .i64 n)).setCell ⟨g, p * 4 + 3, none⟩ (slV s)) base (.slice (some ⟨g, 0, none⟩) n0 cap) (xs.set p (x.1, n, s)) := by
  have hp := (List.getElem?_eq_some_iff.1 hx).1
  rcases h.2 with ⟨h1, _⟩ | ⟨g', cap', cur, h1, hg, hb, hn, hm, hs, ht⟩
  · cases h1
  · injection h1 with e1 e2 e3
    injection e1 with e1
    injection e1 with e1
    subst e1 e2 e3
    refine ⟨by rw [flatW_len], .inr ⟨g, cap, (cur.setIfInBounds (p * 4 + 2) (.int .i64 n)).setIfInBounds (p * 4 + 3) (slV s), by rw [List.length_set], hg, ?_, by rw [List.length_set]; exact hn, hm, by simp [hs], ?_⟩⟩
    · simp [World.setCell, Array.getElem?_modify, hb]
    · rw [List.length_set, flatW_set xs p x n s hx, ← ht]
      simp only [Array.toList_setIfInBounds]
      rw [List.take_set, List.take_set]
theorem AllW.set {w : World} {base : Nat} {xs : List Raw} {l : List Rw} {p : Nat} {x : Raw} {r : Rw} (h : AllW w base xs l) (k : IsW w base x r) : AllW w base (xs.set p x) (l.set p r) := by
  refine ⟨by simp [h.1], fun i y s h1 h2 => ?_⟩
  rw [List.getElem?_set] at h1 h2
  by_cases e : p = i
  · subst e
    simp only [if_true] at h1 h2
    split at h1
    · split at h2
      · injection h1 with h1
        injection h2 with h2
        subst h1 h2
        exact k
      · cases h2
    · cases h1
  · rw [if_neg e] at h1 h2
    exact h.2 i y s h1 h2
theorem AllW.app {w : World} {base : Nat} {xs ys : List Raw} {l m : List Rw} (h : AllW w base xs l) (k : AllW w base ys m) : AllW w base (xs ++ ys) (l ++ m) := by
  refine ⟨by simp [h.1, k.1], fun i y s h1 h2 => ?_⟩
  by_cases hi : i < xs.length
  · rw [List.getElem?_append_left hi] at h1
    rw [List.getElem?_append_left (h.1 ▸ hi)] at h2
    exact h.2 i y s h1 h2
  · rw [List.getElem?_append_right (by omega)] at h1
    rw [List.getElem?_append_right (by have := h.1; omega), ← h.1] at h2
    exact k.2 _ y s h1 h2
theorem AllW.take {w : World} {base : Nat} {xs : List Raw} {l : List Rw} (h : AllW w base xs l) (p : Nat) : AllW w base (xs.take p) (l.take p) := by
  refine ⟨by simp [h.1], fun i y s h1 h2 => ?_⟩
  have hi := (List.getElem?_eq_some_iff.1 h1).1
  rw [List.length_take] at hi
  rw [List.getElem?_take_of_lt (by omega)] at h1 h2
  exact h.2 i y s h1 h2
theorem AllW.drop {w : World} {base : Nat} {xs : List Raw} {l : List Rw} (h : AllW w base xs l) (p : Nat) : AllW w base (xs.drop p) (l.drop p) := by
  refine ⟨by simp [h.1], fun i y s h1 h2 => ?_⟩
  rw [List.getElem?_drop] at h1 h2
  exact h.2 _ y s h1 h2
end Go.Proofs.YtejgcflcckjlpaaGreatDoor
namespace Go.Proofs.YtejgcflcckjlpaaGreatDoor
open Go.RowKit
set_option linter.unusedVariables false
set_option maxRecDepth 100000

/-- What comes: rows that may be put together. -/
structure Fit (agg bound : Int) (l : List Rw) : Prop where
  ok : ∀ r ∈ l, OkC agg bound r.2
theorem gstep {J : Cl → Cl → Cl × Int} {l : List Rw} {k : Nat} {r : Rw} (hr : l[k]? = some r) : gat J (l.take (k + 1)) = stepG J (gat J (l.take k)) r := by
  rw [List.take_add_one, hr]
  exact gat_snoc J _ _
theorem cell_set_ne {W : World} {g o o' : Nat} {u : Value} (h : o' ≠ o) : (W.setCell ⟨g, o, none⟩ u).cell? ⟨g, o', none⟩ = W.cell? ⟨g, o', none⟩ := by
  simp only [World.cell?, World.setCell, Array.getElem?_modify]
  simp only [if_true]
  cases W.heap[g]? with
  | none => rfl
  | some x => cases x <;> simp [Ne.symm h]
theorem frozen_set {W : World} {g o : Nat} {u : Value} {a : Addr} : (W.setCell ⟨g, o, none⟩ u).frozen? a = W.frozen? a := by simp
theorem OwnX.frozen {w : World} {base g cap n0 : Nat} {xs : List Raw} (h : OwnX w base (.slice (some ⟨g, 0, none⟩) n0 cap) xs) (o : Nat) : w.frozen? ⟨g, o, none⟩ = false := by
  rcases h.2 with ⟨h1, _⟩ | ⟨g', cap', cur, h1, hg, hb, -⟩
  · cases h1
  · injection h1 with e1 e2 e3
    injection e1 with e1
    injection e1 with e1
    subst e1
    simp [World.frozen?, hb]
end Go.Proofs.YtejgcflcckjlpaaGreatDoor
/- The page's own: do keys rise, may rows be. -/
namespace Go.Proofs.YtejgcflcckjlpaaGreatDoor
open Go.RowKit
set_option linter.unusedVariables false

/-- Keys that may be, and rise; not too many. -/
def ordB (l : List Rw) : Bool := l.all (fun r => decide (r.1.2.size ≤ 64)) && decide (RiseK l) && decide (l.length ≤ 1536)
structure OrdTo (l : List Rw) (k : Nat) : Prop where
  all : ∀ r ∈ l.take k, r.1.2.size ≤ 64
  rise : RiseK (l.take k)
theorem OrdTo.start (l : List Rw) : OrdTo l 0 := ⟨by simp, by simp [RiseK]⟩
theorem OrdTo.step {l : List Rw} {k : Nat} {r : Rw} (h : OrdTo l k) (hr : l[k]? = some r) (h1 : r.1.2.size ≤ 64) (h2 : ∀ m x, k = m + 1 → l[m]? = some x → ltK x.1 r.1 = true) : OrdTo l (k + 1) := by
  have hstep : l.take (k + 1) = l.take k ++ [r] := by rw [List.take_add_one, hr]; rfl
  have hkl := (List.getElem?_eq_some_iff.1 hr).1
  refine ⟨fun x hx => ?_, ?_⟩
  · rw [hstep] at hx
    rcases List.mem_append.1 hx with hx | hx
    · exact h.all x hx
    · simp at hx; subst hx; exact h1
  · rw [hstep]
    refine rise_snocK h.rise fun x hx => ?_
    rw [List.getLast?_eq_getElem?, List.length_take, Nat.min_eq_left (by omega)] at hx
    have hk0 : 0 < k := by
      rcases Nat.eq_zero_or_pos k with e | e
      · rw [e] at hx; simp at hx
      · exact e
    rw [List.getElem?_take_of_lt (by omega)] at hx
    exact h2 (k - 1) x (by omega) hx
theorem OrdTo.fin {l : List Rw} {k : Nat} (h : OrdTo l k) (hk : l.length ≤ k) : ordB l = decide (l.length ≤ 1536) := by
  obtain ⟨h1, h2⟩ := h
  rw [List.take_of_length_le hk] at h1 h2
  unfold ordB
  rw [List.all_eq_true.2 (fun r hr => decide_eq_true (h1 r hr)), decide_eq_true h2]
  rfl
theorem ordB_key {l : List Rw} {k : Nat} {r : Rw} (hr : l[k]? = some r) (h : ¬ r.1.2.size ≤ 64) : ordB l = false := by
  have : l.all (fun r => decide (r.1.2.size ≤ 64)) = false := by
    cases he : l.all (fun r => decide (r.1.2.size ≤ 64)) with
    | false => rfl
    | true => rw [List.all_eq_true] at he; exact absurd (of_decide_eq_true (he r (List.mem_of_getElem? hr))) h
  unfold ordB
  rw [this, Bool.false_and, Bool.false_and]
theorem ordB_two {l : List Rw} {m k : Nat} {x r : Rw} (hk : k = m + 1) (hx : l[m]? = some x) (hr : l[k]? = some r) (h : ltK x.1 r.1 = false) : ordB l = false := by
  have : ¬ RiseK l := fun hri => by
    have := rise_at hri hx hr (by omega)
    rw [h] at this
    cases this
  unfold ordB
  rw [decide_eq_false this, Bool.and_false, Bool.false_and]
theorem okRows_ord {agg bound : Int} {l : List Rw} (hw : wayC agg bound = true) (hc : ∀ r ∈ l, mayC agg bound.toNat r.2 = true) : okRows agg bound l = ordB l := by
  have e : ∀ r ∈ l, chk agg bound r.2 = true := fun r hr => by unfold chk; rw [hw, hc r hr]; rfl
  unfold okRows ordB
  rw [hw, Bool.true_and, show l.all (fun r => decide (r.1.2.size ≤ 64) && chk agg bound r.2) = l.all (fun r => decide (r.1.2.size ≤ 64)) from by
    rw [Bool.eq_iff_iff, List.all_eq_true, List.all_eq_true]
    exact ⟨fun h r hr => by have := h r hr; rw [Bool.and_eq_true] at this; exact this.1, fun h r hr => by rw [h r hr, e r hr]; rfl⟩]
  cases l.all (fun r => decide (r.1.2.size ≤ 64)) <;> cases decide (RiseK l) <;> cases decide (l.length ≤ 1536) <;> rfl
theorem okRows_cell {agg bound : Int} {l : List Rw} {r : Rw} (hr : r ∈ l) (h : mayC agg bound.toNat r.2 = false) : okRows agg bound l = false := by
  cases he : okRows agg bound l with
  | false => rfl
  | true =>
    have := (okRows_parts he).2.2.1 r hr
    have h2 := this.2
    unfold chk at h2
    rw [h, Bool.and_false] at h2
    cases h2
theorem okRows_big {agg bound : Int} {l : List Rw} (h : ¬ l.length ≤ 1536) : okRows agg bound l = false := by
  cases he : okRows agg bound l with
  | false => rfl
  | true => exact absurd (okRows_parts he).2.1 h
end Go.Proofs.YtejgcflcckjlpaaGreatDoor
namespace Go.Proofs.YtejgcflcckjlpaaGreatDoor
open Go.RowKit
set_option linter.unusedVariables false
set_option maxRecDepth 100000

set_option maxHeartbeats 1600000 in
theorem rordered_any (v : Value) (l : List Rw) (w : World) (h : WS w v l) (hl : l.length ≤ 100000) : Calls Tryz.prog 19 #[v] w (BoolR w (ordB l)) := by
  obtain ⟨va, vc, rfl, hsh⟩ := h
  go_enter Tryz.func19, Tryz.ntmps19
  go_wp2
  go_loopw [3] (fun i wr => ∃ k : Nat, k ≤ l.length ∧ i = .int .i64 k ∧ Hid (OrdTo l k) ∧ Below w.heap.size w wr) (fun i _ => l.length - (intOf i).toNat)
  case atStart => exact ⟨0, by omega, rfl, OrdTo.start l, Below.refl _ _⟩
  case round =>
    rename World => w0
    obtain ⟨k, hk, rfl, HO, hbel⟩ := hrel
    have hsz := hbel.size
    by_cases hlt : k < l.length
    · obtain ⟨⟨⟨ya, yb⟩, yn, yl⟩, hy⟩ := getSome hlt
      rcases hsh with rfl | ⟨b, off, rfl, hb, hat⟩
      · simp at hlt
      have HBEL := hidM hbel
      obtain ⟨c0, c1, -⟩ := (hat.below hbel hb) k _ hy
      simp only at c0 c1
      have HK := hidM (fun W => rkey_any (ya, yb) W)
      have hk0 : (0 : Int) ≤ (k : Int) := by omega
      have hki : (k : Int) < (l.length : Int) := by omega
      by_cases hs : yb.size ≤ 64
      · rw [show decide ((ya, yb).2.size ≤ 64) = true from decide_eq_true hs] at HK
        by_cases hz : k = 0
        · subst hz
          simp only [Nat.zero_mul, Nat.add_zero] at c0 c1
          have HO2 := hidM (HO.out.step hy hs (fun m x hm => by omega))
          clear hat hbel hy hs HO
          go_wp2_with fail
          refine wp_region_any (by kernel_rfl) ?_
          change wpAny _ _ _ _ _ _ _ (World.drew _)
          refine wpAny_take (i := 0) (oi := { dst := some 10, op := Go.Op.move (Go.Operand.tmp 0), type := 29, pos := "thresherref9.go:140", after := #[], guard := none }) (v := ?v0y8) rfl (by kernel_rfl) (by kernel_rfl) (by kernel_rfl) (fun _ _ _ h => h) (Or.inl ⟨by rfl, ?h0y8⟩) ?r0y8
          case h0y8 => (intro W; go_simp; try with_reducible rfl)
          simp only [Act.put, List.setIfInBounds_toArray, List.set_cons_zero, List.set_cons_succ]
          refine wpAny_take (i := 1) (oi := { dst := some 11, op := Go.Op.move (Go.Operand.tmp 3), type := 3, pos := "thresherref9.go:140", after := #[], guard := none }) (v := ?v1y9) rfl (by kernel_rfl) (by kernel_rfl) (by kernel_rfl) (fun _ _ _ h => h) (Or.inl ⟨by rfl, ?h1y9⟩) ?r1y9
          case h1y9 => (intro W; go_simp; try with_reducible rfl)
          simp only [Act.put, List.setIfInBounds_toArray, List.set_cons_zero, List.set_cons_succ]
          refine wpAny_take (i := 2) (oi := { dst := some 12, op := Go.Op.indexAddr 29 (Go.Operand.tmp 10) (Go.Operand.tmp 11), type := 0, pos := "thresherref9.go:140", after := #[{ on := 0, ground := Go.Ground.data }, { on := 1, ground := Go.Ground.data }], guard := none }) (v := ?v2y10) rfl (by kernel_rfl) (by kernel_rfl) (by kernel_rfl) (fun _ _ _ h => h) (Or.inl ⟨by rfl, ?h2y10⟩) ?r2y10
          case h2y10 => (intro W; go_simp; try with_reducible rfl)
          simp only [Act.put, List.setIfInBounds_toArray, List.set_cons_zero, List.set_cons_succ]
          refine wpAny_take (i := 3) (oi := { dst := some 13, op := Go.Op.fieldAddr 47 (Go.Operand.tmp 12) 0, type := 0, pos := "thresherref9.go:140", after := #[{ on := 2, ground := Go.Ground.data }], guard := none }) (v := ?v3y11) rfl (by kernel_rfl) (by kernel_rfl) (by kernel_rfl) (fun _ _ _ h => h) (Or.inl ⟨by rfl, ?h3y11⟩) ?r3y11
          case h3y11 => (intro W; go_simp; try with_reducible rfl)
          simp only [Act.put, List.setIfInBounds_toArray, List.set_cons_zero, List.set_cons_succ]
          refine wpAny_ready (rs := [4]) (by kernel_rfl) (by simp) ?_
          refine AllReady.cons (o := { dst := some 14, op := Go.Op.load 42 (Go.Operand.tmp 13), type := 42, pos := "thresherref9.go:140", after := #[{ on := 3, ground := Go.Ground.data }], guard := none }) rfl (fun K hK => ?_) AllReady.nil
          go_simp
          refine hK _ _ ?_
          clear hK K
          try simp only [Act.put, List.setIfInBounds_toArray, List.set_cons_zero, List.set_cons_succ]
          refine wpAny_ready (rs := [5]) (by kernel_rfl) (by simp) ?_
          refine AllReady.cons (o := { dst := some 15, op := Go.Op.call { callee := Go.Callee.value (Go.Operand.func 34), args := #[Go.Operand.tmp 14], argTypes := #[42] }, type := 4, pos := "thresherref9.go:140", after := #[{ on := 4, ground := Go.Ground.data }], guard := none }) rfl (fun K hK => ?_) AllReady.nil
          go_simp
          refine (HK.out _).mono ?_
          rintro e W1 ⟨rfl, hb1⟩
          refine hK _ _ ?_
          clear hK K
          try simp only [Act.put, List.setIfInBounds_toArray, List.set_cons_zero, List.set_cons_succ]
          refine wpAny_take (i := 6) (oi := { dst := some 16, op := Go.Op.unOp Go.UnOp.not 4 (Go.Operand.tmp 15), type := 4, pos := "thresherref9.go:140", after := #[{ on := 5, ground := Go.Ground.data }], guard := none }) (v := ?v6y12) rfl (by kernel_rfl) (by kernel_rfl) (by kernel_rfl) (fun _ _ _ h => h) (Or.inl ⟨by rfl, ?h6y12⟩) ?r6y12
          case h6y12 => (intro W; go_simp; try with_reducible rfl)
          simp only [Act.put, List.setIfInBounds_toArray, List.set_cons_zero, List.set_cons_succ]
          refine wpAny_take (i := 7) (oi := { dst := some 17, op := Go.Op.move (Go.Operand.tmp 16), type := 4, pos := "thresherref9.go:140", after := #[{ on := 6, ground := Go.Ground.data }, { on := 5, ground := Go.Ground.chain }], guard := none }) (v := ?v7y13) rfl (by kernel_rfl) (by kernel_rfl) (by kernel_rfl) (fun _ _ _ h => h) (Or.inl ⟨by rfl, ?h7y13⟩) ?r7y13
          case h7y13 => (intro W; go_simp; try with_reducible rfl)
          simp only [Act.put, List.setIfInBounds_toArray, List.set_cons_zero, List.set_cons_succ]
          refine wpAny_take (i := 8) (oi := { dst := some 18, op := Go.Op.move (Go.Operand.tmp 3), type := 3, pos := "thresherref9.go:140", after := #[{ on := 7, ground := Go.Ground.guard }], guard := some (7, false) }) (v := ?v8y14) rfl (by kernel_rfl) (by kernel_rfl) (by kernel_rfl) (fun _ _ _ h => h) (Or.inl ⟨by rfl, ?h8y14⟩) ?r8y14
          case h8y14 => (intro W; go_simp; try with_reducible rfl)
          simp only [Act.put, List.setIfInBounds_toArray, List.set_cons_zero, List.set_cons_succ]
          refine wpAny_take (i := 9) (oi := { dst := some 19, op := Go.Op.binOp Go.BinOp.gtr 3 (Go.Operand.tmp 18) (Go.Operand.const (Go.Value.int Go.IntKind.i64 0)) 3, type := 4, pos := "thresherref9.go:140", after := #[{ on := 8, ground := Go.Ground.data }, { on := 7, ground := Go.Ground.guard }], guard := some (7, false) }) (v := ?v9y15) rfl (by kernel_rfl) (by kernel_rfl) (by kernel_rfl) (fun _ _ _ h => h) (Or.inl ⟨by rfl, ?h9y15⟩) ?r9y15
          case h9y15 => (intro W; go_simp; try with_reducible rfl)
          simp only [Act.put, List.setIfInBounds_toArray, List.set_cons_zero, List.set_cons_succ]
          refine wpAny_take (i := 10) (oi := { dst := some 20, op := Go.Op.move (Go.Operand.tmp 19), type := 4, pos := "thresherref9.go:140", after := #[{ on := 9, ground := Go.Ground.data }, { on := 7, ground := Go.Ground.chain }, { on := 7, ground := Go.Ground.guard }], guard := some (7, false) }) (v := ?v10y16) rfl (by kernel_rfl) (by kernel_rfl) (by kernel_rfl) (fun _ _ _ h => h) (Or.inl ⟨by rfl, ?h10y16⟩) ?r10y16
          case h10y16 => (intro W; go_simp; try with_reducible rfl)
          simp only [Act.put, List.setIfInBounds_toArray, List.set_cons_zero, List.set_cons_succ]
          refine wpAny_take (i := 11) (oi := { dst := some 21, op := Go.Op.move (Go.Operand.tmp 0), type := 29, pos := "thresherref9.go:140", after := #[{ on := 10, ground := Go.Ground.guard }], guard := some (10, true) }) (v := undef) rfl (by kernel_rfl) (by kernel_rfl) (by kernel_rfl) (fun _ _ _ h => h) (Or.inr ⟨by rfl, rfl⟩) ?_
          simp only [Act.put, List.setIfInBounds_toArray, List.set_cons_zero, List.set_cons_succ]
          refine wpAny_take (i := 12) (oi := { dst := some 22, op := Go.Op.move (Go.Operand.tmp 3), type := 3, pos := "thresherref9.go:140", after := #[{ on := 10, ground := Go.Ground.guard }], guard := some (10, true) }) (v := undef) rfl (by kernel_rfl) (by kernel_rfl) (by kernel_rfl) (fun _ _ _ h => h) (Or.inr ⟨by rfl, rfl⟩) ?_
          simp only [Act.put, List.setIfInBounds_toArray, List.set_cons_zero, List.set_cons_succ]
          refine wpAny_take (i := 13) (oi := { dst := some 23, op := Go.Op.binOp Go.BinOp.sub 3 (Go.Operand.tmp 22) (Go.Operand.const (Go.Value.int Go.IntKind.i64 1)) 3, type := 3, pos := "thresherref9.go:140", after := #[{ on := 12, ground := Go.Ground.data }, { on := 10, ground := Go.Ground.guard }], guard := some (10, true) }) (v := undef) rfl (by kernel_rfl) (by kernel_rfl) (by kernel_rfl) (fun _ _ _ h => h) (Or.inr ⟨by rfl, rfl⟩) ?_
          simp only [Act.put, List.setIfInBounds_toArray, List.set_cons_zero, List.set_cons_succ]
          refine wpAny_take (i := 14) (oi := { dst := some 24, op := Go.Op.indexAddr 29 (Go.Operand.tmp 21) (Go.Operand.tmp 23), type := 0, pos := "thresherref9.go:140", after := #[{ on := 11, ground := Go.Ground.data }, { on := 13, ground := Go.Ground.data }, { on := 10, ground := Go.Ground.guard }], guard := some (10, true) }) (v := undef) rfl (by kernel_rfl) (by kernel_rfl) (by kernel_rfl) (fun _ _ _ h => h) (Or.inr ⟨by rfl, rfl⟩) ?_
          simp only [Act.put, List.setIfInBounds_toArray, List.set_cons_zero, List.set_cons_succ]
          refine wpAny_take (i := 15) (oi := { dst := some 25, op := Go.Op.fieldAddr 47 (Go.Operand.tmp 24) 0, type := 0, pos := "thresherref9.go:140", after := #[{ on := 14, ground := Go.Ground.data }, { on := 10, ground := Go.Ground.guard }], guard := some (10, true) }) (v := undef) rfl (by kernel_rfl) (by kernel_rfl) (by kernel_rfl) (fun _ _ _ h => h) (Or.inr ⟨by rfl, rfl⟩) ?_
          simp only [Act.put, List.setIfInBounds_toArray, List.set_cons_zero, List.set_cons_succ]
          refine wpAny_take (i := 16) (oi := { dst := some 26, op := Go.Op.load 42 (Go.Operand.tmp 25), type := 42, pos := "thresherref9.go:140", after := #[{ on := 15, ground := Go.Ground.data }, { on := 10, ground := Go.Ground.guard }], guard := some (10, true) }) (v := undef) rfl (by kernel_rfl) (by kernel_rfl) (by kernel_rfl) (fun _ _ _ h => h) (Or.inr ⟨by rfl, rfl⟩) ?_
          simp only [Act.put, List.setIfInBounds_toArray, List.set_cons_zero, List.set_cons_succ]
          refine wpAny_take (i := 17) (oi := { dst := some 27, op := Go.Op.move (Go.Operand.tmp 0), type := 29, pos := "thresherref9.go:140", after := #[{ on := 10, ground := Go.Ground.guard }], guard := some (10, true) }) (v := undef) rfl (by kernel_rfl) (by kernel_rfl) (by kernel_rfl) (fun _ _ _ h => h) (Or.inr ⟨by rfl, rfl⟩) ?_
          simp only [Act.put, List.setIfInBounds_toArray, List.set_cons_zero, List.set_cons_succ]
          refine wpAny_take (i := 18) (oi := { dst := some 28, op := Go.Op.move (Go.Operand.tmp 3), type := 3, pos := "thresherref9.go:140", after := #[{ on := 10, ground := Go.Ground.guard }], guard := some (10, true) }) (v := undef) rfl (by kernel_rfl) (by kernel_rfl) (by kernel_rfl) (fun _ _ _ h => h) (Or.inr ⟨by rfl, rfl⟩) ?_
          simp only [Act.put, List.setIfInBounds_toArray, List.set_cons_zero, List.set_cons_succ]
          refine wpAny_take (i := 19) (oi := { dst := some 29, op := Go.Op.indexAddr 29 (Go.Operand.tmp 27) (Go.Operand.tmp 28), type := 0, pos := "thresherref9.go:140", after := #[{ on := 17, ground := Go.Ground.data }, { on := 18, ground := Go.Ground.data }, { on := 10, ground := Go.Ground.guard }], guard := some (10, true) }) (v := undef) rfl (by kernel_rfl) (by kernel_rfl) (by kernel_rfl) (fun _ _ _ h => h) (Or.inr ⟨by rfl, rfl⟩) ?_
          simp only [Act.put, List.setIfInBounds_toArray, List.set_cons_zero, List.set_cons_succ]
          refine wpAny_take (i := 20) (oi := { dst := some 30, op := Go.Op.fieldAddr 47 (Go.Operand.tmp 29) 0, type := 0, pos := "thresherref9.go:140", after := #[{ on := 19, ground := Go.Ground.data }, { on := 10, ground := Go.Ground.guard }], guard := some (10, true) }) (v := undef) rfl (by kernel_rfl) (by kernel_rfl) (by kernel_rfl) (fun _ _ _ h => h) (Or.inr ⟨by rfl, rfl⟩) ?_
          simp only [Act.put, List.setIfInBounds_toArray, List.set_cons_zero, List.set_cons_succ]
          refine wpAny_take (i := 21) (oi := { dst := some 31, op := Go.Op.load 42 (Go.Operand.tmp 30), type := 42, pos := "thresherref9.go:140", after := #[{ on := 20, ground := Go.Ground.data }, { on := 10, ground := Go.Ground.guard }], guard := some (10, true) }) (v := undef) rfl (by kernel_rfl) (by kernel_rfl) (by kernel_rfl) (fun _ _ _ h => h) (Or.inr ⟨by rfl, rfl⟩) ?_
          simp only [Act.put, List.setIfInBounds_toArray, List.set_cons_zero, List.set_cons_succ]
          refine wpAny_take (i := 22) (oi := { dst := some 32, op := Go.Op.call { callee := Go.Callee.value (Go.Operand.func 13), args := #[Go.Operand.tmp 26, Go.Operand.tmp 31], argTypes := #[42, 42] }, type := 3, pos := "thresherref9.go:140", after := #[{ on := 16, ground := Go.Ground.data }, { on := 21, ground := Go.Ground.data }, { on := 10, ground := Go.Ground.chain }, { on := 10, ground := Go.Ground.guard }], guard := some (10, true) }) (v := undef) rfl (by kernel_rfl) (by kernel_rfl) (by kernel_rfl) (fun _ _ _ h => h) (Or.inr ⟨by rfl, rfl⟩) ?_
          simp only [Act.put, List.setIfInBounds_toArray, List.set_cons_zero, List.set_cons_succ]
          refine wpAny_take (i := 23) (oi := { dst := some 33, op := Go.Op.binOp Go.BinOp.geq 3 (Go.Operand.tmp 32) (Go.Operand.const (Go.Value.int Go.IntKind.i64 0)) 3, type := 4, pos := "thresherref9.go:140", after := #[{ on := 22, ground := Go.Ground.data }, { on := 10, ground := Go.Ground.guard }], guard := some (10, true) }) (v := undef) rfl (by kernel_rfl) (by kernel_rfl) (by kernel_rfl) (fun _ _ _ h => h) (Or.inr ⟨by rfl, rfl⟩) ?_
          simp only [Act.put, List.setIfInBounds_toArray, List.set_cons_zero, List.set_cons_succ]
          refine wpAny_take (i := 24) (oi := { dst := some 34, op := Go.Op.pick (Go.Operand.tmp 20) (Go.Operand.tmp 33) (Go.Operand.const (Go.Value.bool false)), type := 4, pos := "thresherref9.go:140", after := #[{ on := 10, ground := Go.Ground.data }, { on := 23, ground := Go.Ground.data }, { on := 7, ground := Go.Ground.guard }], guard := some (7, false) }) (v := ?v24y17) rfl (by kernel_rfl) (by kernel_rfl) (by kernel_rfl) (fun _ _ _ h => h) (Or.inl ⟨by rfl, ?h24y17⟩) ?r24y17
          case h24y17 => (intro W; go_simp; try with_reducible rfl)
          simp only [Act.put, List.setIfInBounds_toArray, List.set_cons_zero, List.set_cons_succ]
          refine wpAny_take (i := 25) (oi := { dst := some 35, op := Go.Op.pick (Go.Operand.tmp 17) (Go.Operand.const (Go.Value.bool true)) (Go.Operand.tmp 34), type := 4, pos := "thresherref9.go:140", after := #[{ on := 7, ground := Go.Ground.data }, { on := 24, ground := Go.Ground.data }], guard := none }) (v := ?v25y18) rfl (by kernel_rfl) (by kernel_rfl) (by kernel_rfl) (fun _ _ _ h => h) (Or.inl ⟨by rfl, ?h25y18⟩) ?r25y18
          case h25y18 => (intro W; go_simp; try with_reducible rfl)
          simp only [Act.put, List.setIfInBounds_toArray, List.set_cons_zero, List.set_cons_succ]
          refine wpAny_done (by kernel_rfl) ?_ _
          go_wp2
          go_roundw
          case rel => exact ⟨1, by omega, by go_num, HO2.out, HBEL.out.trans ((nxt ((Below.refl w0.heap.size w0).drew) hb1).mono hsz)⟩
          case measure => simp [intOf]; omega
        · obtain ⟨m, hm⟩ : ∃ m, k = m + 1 := ⟨k - 1, by omega⟩
          obtain ⟨⟨⟨xa, xb⟩, xn, xl⟩, hx⟩ := getSome (l := l) (i := m) (by omega)
          obtain ⟨d0, d1, -⟩ := (hat.below hbel hb) m _ hx
          simp only at d0 d1
          have hbl : b < w0.heap.size := by omega
          have HS := hidM (show ∀ W, Below w0.heap.size w0 W → W.cell? ⟨b, off + k * 4, none⟩ = some (.int .i64 ya) ∧ W.cell? ⟨b, off + k * 4 + 1, none⟩ = some (.string yb) ∧ W.cell? ⟨b, off + m * 4, none⟩ = some (.int .i64 xa) ∧ W.cell? ⟨b, off + m * 4 + 1, none⟩ = some (.string xb) ∧ Below w0.heap.size w0 W from fun W hW =>
            ⟨(hW.cell (p := ⟨b, _, none⟩) hbl).trans c0, (hW.cell (p := ⟨b, _, none⟩) hbl).trans c1, (hW.cell (p := ⟨b, _, none⟩) hbl).trans d0, (hW.cell (p := ⟨b, _, none⟩) hbl).trans d1, hW⟩)
          have HC := hidM (fun W => rcmp_any (xa, xb) (ya, yb) W)
          have hneg := cfK_lt0 (xa, xb) (ya, yb)
          have hwr : IntKind.i64.wrap ((k : Int) - 1) = (m : Int) := by rw [IntKind.wrap_i64]; omega
          have hm0 : (0 : Int) ≤ (m : Int) := by omega
          have hmi : (m : Int) < (l.length : Int) := by omega
          have hd1 : decide ((0 : Int) < (k : Int)) = true := decide_eq_true (by omega)
          have hd2 : decide (0 < k) = true := decide_eq_true (by omega)
          have HM := hidM hm
          cases hlk : ltK (xa, xb) (ya, yb) with
          | true =>
            rw [hlk, decide_eq_true_eq] at hneg
            have HO2 := hidM (HO.out.step hy hs (fun m' x' hm' hx' => by
              obtain rfl : m' = m := by omega
              rw [hx] at hx'
              injection hx' with hx'
              subst hx'
              exact hlk))
            obtain ⟨cf, hcf⟩ : ∃ cf : Int, cf = cfK (xa, xb) (ya, yb) := ⟨_, rfl⟩
            rw [← hcf] at HC hneg
            have hneg2 : decide ((0 : Int) ≤ cf) = false := decide_eq_false (by omega)
            clear hat hbel hy hx hs HO hcf hm hlk c0 c1 d0 d1 hneg
            go_wp2_with fail
            go_region_held3 (fun W => W.cell? ⟨b, off + k * 4, none⟩ = some (.int .i64 ya) ∧ W.cell? ⟨b, off + k * 4 + 1, none⟩ = some (.string yb) ∧ W.cell? ⟨b, off + m * 4, none⟩ = some (.int .i64 xa) ∧ W.cell? ⟨b, off + m * 4 + 1, none⟩ = some (.string xb) ∧ Below w0.heap.size w0 W)
              (first | exact HS.out _ (Below.refl _ _).drew | exact HS.out _ (nxt ((Below.refl _ _).drew) hb2) | exact HS.out _ (nxt (nxt ((Below.refl _ _).drew) hb2) hb3))
              (first | (go_at_call 34; refine (HK.out _).mono ?_; rintro e W2 ⟨rfl, hb2⟩) | (go_at_call 13; refine (HC.out _).mono ?_; rintro e W3 ⟨rfl, hb3⟩))
            go_wp2
            go_roundw
            case rel => exact ⟨k + 1, by omega, by go_num, HO2.out, HBEL.out.trans ((nxt (nxt ((Below.refl w0.heap.size w0).drew) hb2) hb3).mono hsz)⟩
            case measure => simp [intOf]; omega
          | false =>
            rw [hlk, decide_eq_false_iff_not] at hneg
            have HF := hidM (ordB_two hm hx hy hlk)
            obtain ⟨cf, hcf⟩ : ∃ cf : Int, cf = cfK (xa, xb) (ya, yb) := ⟨_, rfl⟩
            rw [← hcf] at HC hneg
            have hneg2 : decide ((0 : Int) ≤ cf) = true := decide_eq_true (by omega)
            clear hat hbel hy hx hs HO hcf hm hlk c0 c1 d0 d1 hneg
            go_wp2_with fail
            go_region_held3 (fun W => W.cell? ⟨b, off + k * 4, none⟩ = some (.int .i64 ya) ∧ W.cell? ⟨b, off + k * 4 + 1, none⟩ = some (.string yb) ∧ W.cell? ⟨b, off + m * 4, none⟩ = some (.int .i64 xa) ∧ W.cell? ⟨b, off + m * 4 + 1, none⟩ = some (.string xb) ∧ Below w0.heap.size w0 W)
              (first | exact HS.out _ (Below.refl _ _).drew | exact HS.out _ (nxt ((Below.refl _ _).drew) hb2) | exact HS.out _ (nxt (nxt ((Below.refl _ _).drew) hb2) hb3))
              (first | (go_at_call 34; refine (HK.out _).mono ?_; rintro e W2 ⟨rfl, hb2⟩) | (go_at_call 13; refine (HC.out _).mono ?_; rintro e W3 ⟨rfl, hb3⟩))
            go_wp2
            go_ret
            exact ⟨by rw [HF.out]; rfl, HBEL.out.trans ((nxt (nxt ((Below.refl w0.heap.size w0).drew) hb2) hb3).mono hsz)⟩
      · rw [show decide ((ya, yb).2.size ≤ 64) = false from decide_eq_false hs] at HK
        have HF := hidM (ordB_key hy hs)
        clear hat hbel hy hs HO
        go_wp2_with fail
        refine wp_region_any (by kernel_rfl) ?_
        change wpAny _ _ _ _ _ _ _ (World.drew _)
        refine wpAny_take (i := 0) (oi := { dst := some 10, op := Go.Op.move (Go.Operand.tmp 0), type := 29, pos := "thresherref9.go:140", after := #[], guard := none }) (v := ?v0y1) rfl (by kernel_rfl) (by kernel_rfl) (by kernel_rfl) (fun _ _ _ h => h) (Or.inl ⟨by rfl, ?h0y1⟩) ?r0y1
        case h0y1 => (intro W; go_simp; try with_reducible rfl)
        simp only [Act.put, List.setIfInBounds_toArray, List.set_cons_zero, List.set_cons_succ]
        refine wpAny_take (i := 1) (oi := { dst := some 11, op := Go.Op.move (Go.Operand.tmp 3), type := 3, pos := "thresherref9.go:140", after := #[], guard := none }) (v := ?v1y2) rfl (by kernel_rfl) (by kernel_rfl) (by kernel_rfl) (fun _ _ _ h => h) (Or.inl ⟨by rfl, ?h1y2⟩) ?r1y2
        case h1y2 => (intro W; go_simp; try with_reducible rfl)
        simp only [Act.put, List.setIfInBounds_toArray, List.set_cons_zero, List.set_cons_succ]
        refine wpAny_take (i := 2) (oi := { dst := some 12, op := Go.Op.indexAddr 29 (Go.Operand.tmp 10) (Go.Operand.tmp 11), type := 0, pos := "thresherref9.go:140", after := #[{ on := 0, ground := Go.Ground.data }, { on := 1, ground := Go.Ground.data }], guard := none }) (v := ?v2y3) rfl (by kernel_rfl) (by kernel_rfl) (by kernel_rfl) (fun _ _ _ h => h) (Or.inl ⟨by rfl, ?h2y3⟩) ?r2y3
        case h2y3 => (intro W; go_simp; try with_reducible rfl)
        simp only [Act.put, List.setIfInBounds_toArray, List.set_cons_zero, List.set_cons_succ]
        refine wpAny_take (i := 3) (oi := { dst := some 13, op := Go.Op.fieldAddr 47 (Go.Operand.tmp 12) 0, type := 0, pos := "thresherref9.go:140", after := #[{ on := 2, ground := Go.Ground.data }], guard := none }) (v := ?v3y4) rfl (by kernel_rfl) (by kernel_rfl) (by kernel_rfl) (fun _ _ _ h => h) (Or.inl ⟨by rfl, ?h3y4⟩) ?r3y4
        case h3y4 => (intro W; go_simp; try with_reducible rfl)
        simp only [Act.put, List.setIfInBounds_toArray, List.set_cons_zero, List.set_cons_succ]
        refine wpAny_ready (rs := [4]) (by kernel_rfl) (by simp) ?_
        refine AllReady.cons (o := { dst := some 14, op := Go.Op.load 42 (Go.Operand.tmp 13), type := 42, pos := "thresherref9.go:140", after := #[{ on := 3, ground := Go.Ground.data }], guard := none }) rfl (fun K hK => ?_) AllReady.nil
        go_simp
        refine hK _ _ ?_
        clear hK K
        try simp only [Act.put, List.setIfInBounds_toArray, List.set_cons_zero, List.set_cons_succ]
        refine wpAny_ready (rs := [5]) (by kernel_rfl) (by simp) ?_
        refine AllReady.cons (o := { dst := some 15, op := Go.Op.call { callee := Go.Callee.value (Go.Operand.func 34), args := #[Go.Operand.tmp 14], argTypes := #[42] }, type := 4, pos := "thresherref9.go:140", after := #[{ on := 4, ground := Go.Ground.data }], guard := none }) rfl (fun K hK => ?_) AllReady.nil
        go_simp
        refine (HK.out _).mono ?_
        rintro e W1 ⟨rfl, hb1⟩
        refine hK _ _ ?_
        clear hK K
        try simp only [Act.put, List.setIfInBounds_toArray, List.set_cons_zero, List.set_cons_succ]
        refine wpAny_take (i := 6) (oi := { dst := some 16, op := Go.Op.unOp Go.UnOp.not 4 (Go.Operand.tmp 15), type := 4, pos := "thresherref9.go:140", after := #[{ on := 5, ground := Go.Ground.data }], guard := none }) (v := ?v6y5) rfl (by kernel_rfl) (by kernel_rfl) (by kernel_rfl) (fun _ _ _ h => h) (Or.inl ⟨by rfl, ?h6y5⟩) ?r6y5
        case h6y5 => (intro W; go_simp; try with_reducible rfl)
        simp only [Act.put, List.setIfInBounds_toArray, List.set_cons_zero, List.set_cons_succ]
        refine wpAny_take (i := 7) (oi := { dst := some 17, op := Go.Op.move (Go.Operand.tmp 16), type := 4, pos := "thresherref9.go:140", after := #[{ on := 6, ground := Go.Ground.data }, { on := 5, ground := Go.Ground.chain }], guard := none }) (v := ?v7y6) rfl (by kernel_rfl) (by kernel_rfl) (by kernel_rfl) (fun _ _ _ h => h) (Or.inl ⟨by rfl, ?h7y6⟩) ?r7y6
        case h7y6 => (intro W; go_simp; try with_reducible rfl)
        simp only [Act.put, List.setIfInBounds_toArray, List.set_cons_zero, List.set_cons_succ]
        refine wpAny_take (i := 8) (oi := { dst := some 18, op := Go.Op.move (Go.Operand.tmp 3), type := 3, pos := "thresherref9.go:140", after := #[{ on := 7, ground := Go.Ground.guard }], guard := some (7, false) }) (v := undef) rfl (by kernel_rfl) (by kernel_rfl) (by kernel_rfl) (fun _ _ _ h => h) (Or.inr ⟨by rfl, rfl⟩) ?_
        simp only [Act.put, List.setIfInBounds_toArray, List.set_cons_zero, List.set_cons_succ]
        refine wpAny_take (i := 9) (oi := { dst := some 19, op := Go.Op.binOp Go.BinOp.gtr 3 (Go.Operand.tmp 18) (Go.Operand.const (Go.Value.int Go.IntKind.i64 0)) 3, type := 4, pos := "thresherref9.go:140", after := #[{ on := 8, ground := Go.Ground.data }, { on := 7, ground := Go.Ground.guard }], guard := some (7, false) }) (v := undef) rfl (by kernel_rfl) (by kernel_rfl) (by kernel_rfl) (fun _ _ _ h => h) (Or.inr ⟨by rfl, rfl⟩) ?_
        simp only [Act.put, List.setIfInBounds_toArray, List.set_cons_zero, List.set_cons_succ]
        refine wpAny_take (i := 10) (oi := { dst := some 20, op := Go.Op.move (Go.Operand.tmp 19), type := 4, pos := "thresherref9.go:140", after := #[{ on := 9, ground := Go.Ground.data }, { on := 7, ground := Go.Ground.chain }, { on := 7, ground := Go.Ground.guard }], guard := some (7, false) }) (v := undef) rfl (by kernel_rfl) (by kernel_rfl) (by kernel_rfl) (fun _ _ _ h => h) (Or.inr ⟨by rfl, rfl⟩) ?_
        simp only [Act.put, List.setIfInBounds_toArray, List.set_cons_zero, List.set_cons_succ]
        refine wpAny_take (i := 11) (oi := { dst := some 21, op := Go.Op.move (Go.Operand.tmp 0), type := 29, pos := "thresherref9.go:140", after := #[{ on := 10, ground := Go.Ground.guard }], guard := some (10, true) }) (v := undef) rfl (by kernel_rfl) (by kernel_rfl) (by kernel_rfl) (fun _ _ _ h => h) (Or.inr ⟨by rfl, rfl⟩) ?_
        simp only [Act.put, List.setIfInBounds_toArray, List.set_cons_zero, List.set_cons_succ]
        refine wpAny_take (i := 12) (oi := { dst := some 22, op := Go.Op.move (Go.Operand.tmp 3), type := 3, pos := "thresherref9.go:140", after := #[{ on := 10, ground := Go.Ground.guard }], guard := some (10, true) }) (v := undef) rfl (by kernel_rfl) (by kernel_rfl) (by kernel_rfl) (fun _ _ _ h => h) (Or.inr ⟨by rfl, rfl⟩) ?_
        simp only [Act.put, List.setIfInBounds_toArray, List.set_cons_zero, List.set_cons_succ]
        refine wpAny_take (i := 13) (oi := { dst := some 23, op := Go.Op.binOp Go.BinOp.sub 3 (Go.Operand.tmp 22) (Go.Operand.const (Go.Value.int Go.IntKind.i64 1)) 3, type := 3, pos := "thresherref9.go:140", after := #[{ on := 12, ground := Go.Ground.data }, { on := 10, ground := Go.Ground.guard }], guard := some (10, true) }) (v := undef) rfl (by kernel_rfl) (by kernel_rfl) (by kernel_rfl) (fun _ _ _ h => h) (Or.inr ⟨by rfl, rfl⟩) ?_
        simp only [Act.put, List.setIfInBounds_toArray, List.set_cons_zero, List.set_cons_succ]
        refine wpAny_take (i := 14) (oi := { dst := some 24, op := Go.Op.indexAddr 29 (Go.Operand.tmp 21) (Go.Operand.tmp 23), type := 0, pos := "thresherref9.go:140", after := #[{ on := 11, ground := Go.Ground.data }, { on := 13, ground := Go.Ground.data }, { on := 10, ground := Go.Ground.guard }], guard := some (10, true) }) (v := undef) rfl (by kernel_rfl) (by kernel_rfl) (by kernel_rfl) (fun _ _ _ h => h) (Or.inr ⟨by rfl, rfl⟩) ?_
        simp only [Act.put, List.setIfInBounds_toArray, List.set_cons_zero, List.set_cons_succ]
        refine wpAny_take (i := 15) (oi := { dst := some 25, op := Go.Op.fieldAddr 47 (Go.Operand.tmp 24) 0, type := 0, pos := "thresherref9.go:140", after := #[{ on := 14, ground := Go.Ground.data }, { on := 10, ground := Go.Ground.guard }], guard := some (10, true) }) (v := undef) rfl (by kernel_rfl) (by kernel_rfl) (by kernel_rfl) (fun _ _ _ h => h) (Or.inr ⟨by rfl, rfl⟩) ?_
        simp only [Act.put, List.setIfInBounds_toArray, List.set_cons_zero, List.set_cons_succ]
        refine wpAny_take (i := 16) (oi := { dst := some 26, op := Go.Op.load 42 (Go.Operand.tmp 25), type := 42, pos := "thresherref9.go:140", after := #[{ on := 15, ground := Go.Ground.data }, { on := 10, ground := Go.Ground.guard }], guard := some (10, true) }) (v := undef) rfl (by kernel_rfl) (by kernel_rfl) (by kernel_rfl) (fun _ _ _ h => h) (Or.inr ⟨by rfl, rfl⟩) ?_
        simp only [Act.put, List.setIfInBounds_toArray, List.set_cons_zero, List.set_cons_succ]
        refine wpAny_take (i := 17) (oi := { dst := some 27, op := Go.Op.move (Go.Operand.tmp 0), type := 29, pos := "thresherref9.go:140", after := #[{ on := 10, ground := Go.Ground.guard }], guard := some (10, true) }) (v := undef) rfl (by kernel_rfl) (by kernel_rfl) (by kernel_rfl) (fun _ _ _ h => h) (Or.inr ⟨by rfl, rfl⟩) ?_
        simp only [Act.put, List.setIfInBounds_toArray, List.set_cons_zero, List.set_cons_succ]
        refine wpAny_take (i := 18) (oi := { dst := some 28, op := Go.Op.move (Go.Operand.tmp 3), type := 3, pos := "thresherref9.go:140", after := #[{ on := 10, ground := Go.Ground.guard }], guard := some (10, true) }) (v := undef) rfl (by kernel_rfl) (by kernel_rfl) (by kernel_rfl) (fun _ _ _ h => h) (Or.inr ⟨by rfl, rfl⟩) ?_
        simp only [Act.put, List.setIfInBounds_toArray, List.set_cons_zero, List.set_cons_succ]
        refine wpAny_take (i := 19) (oi := { dst := some 29, op := Go.Op.indexAddr 29 (Go.Operand.tmp 27) (Go.Operand.tmp 28), type := 0, pos := "thresherref9.go:140", after := #[{ on := 17, ground := Go.Ground.data }, { on := 18, ground := Go.Ground.data }, { on := 10, ground := Go.Ground.guard }], guard := some (10, true) }) (v := undef) rfl (by kernel_rfl) (by kernel_rfl) (by kernel_rfl) (fun _ _ _ h => h) (Or.inr ⟨by rfl, rfl⟩) ?_
        simp only [Act.put, List.setIfInBounds_toArray, List.set_cons_zero, List.set_cons_succ]
        refine wpAny_take (i := 20) (oi := { dst := some 30, op := Go.Op.fieldAddr 47 (Go.Operand.tmp 29) 0, type := 0, pos := "thresherref9.go:140", after := #[{ on := 19, ground := Go.Ground.data }, { on := 10, ground := Go.Ground.guard }], guard := some (10, true) }) (v := undef) rfl (by kernel_rfl) (by kernel_rfl) (by kernel_rfl) (fun _ _ _ h => h) (Or.inr ⟨by rfl, rfl⟩) ?_
        simp only [Act.put, List.setIfInBounds_toArray, List.set_cons_zero, List.set_cons_succ]
        refine wpAny_take (i := 21) (oi := { dst := some 31, op := Go.Op.load 42 (Go.Operand.tmp 30), type := 42, pos := "thresherref9.go:140", after := #[{ on := 20, ground := Go.Ground.data }, { on := 10, ground := Go.Ground.guard }], guard := some (10, true) }) (v := undef) rfl (by kernel_rfl) (by kernel_rfl) (by kernel_rfl) (fun _ _ _ h => h) (Or.inr ⟨by rfl, rfl⟩) ?_
        simp only [Act.put, List.setIfInBounds_toArray, List.set_cons_zero, List.set_cons_succ]
        refine wpAny_take (i := 22) (oi := { dst := some 32, op := Go.Op.call { callee := Go.Callee.value (Go.Operand.func 13), args := #[Go.Operand.tmp 26, Go.Operand.tmp 31], argTypes := #[42, 42] }, type := 3, pos := "thresherref9.go:140", after := #[{ on := 16, ground := Go.Ground.data }, { on := 21, ground := Go.Ground.data }, { on := 10, ground := Go.Ground.chain }, { on := 10, ground := Go.Ground.guard }], guard := some (10, true) }) (v := undef) rfl (by kernel_rfl) (by kernel_rfl) (by kernel_rfl) (fun _ _ _ h => h) (Or.inr ⟨by rfl, rfl⟩) ?_
        simp only [Act.put, List.setIfInBounds_toArray, List.set_cons_zero, List.set_cons_succ]
        refine wpAny_take (i := 23) (oi := { dst := some 33, op := Go.Op.binOp Go.BinOp.geq 3 (Go.Operand.tmp 32) (Go.Operand.const (Go.Value.int Go.IntKind.i64 0)) 3, type := 4, pos := "thresherref9.go:140", after := #[{ on := 22, ground := Go.Ground.data }, { on := 10, ground := Go.Ground.guard }], guard := some (10, true) }) (v := undef) rfl (by kernel_rfl) (by kernel_rfl) (by kernel_rfl) (fun _ _ _ h => h) (Or.inr ⟨by rfl, rfl⟩) ?_
        simp only [Act.put, List.setIfInBounds_toArray, List.set_cons_zero, List.set_cons_succ]
        refine wpAny_take (i := 24) (oi := { dst := some 34, op := Go.Op.pick (Go.Operand.tmp 20) (Go.Operand.tmp 33) (Go.Operand.const (Go.Value.bool false)), type := 4, pos := "thresherref9.go:140", after := #[{ on := 10, ground := Go.Ground.data }, { on := 23, ground := Go.Ground.data }, { on := 7, ground := Go.Ground.guard }], guard := some (7, false) }) (v := undef) rfl (by kernel_rfl) (by kernel_rfl) (by kernel_rfl) (fun _ _ _ h => h) (Or.inr ⟨by rfl, rfl⟩) ?_
        simp only [Act.put, List.setIfInBounds_toArray, List.set_cons_zero, List.set_cons_succ]
        refine wpAny_take (i := 25) (oi := { dst := some 35, op := Go.Op.pick (Go.Operand.tmp 17) (Go.Operand.const (Go.Value.bool true)) (Go.Operand.tmp 34), type := 4, pos := "thresherref9.go:140", after := #[{ on := 7, ground := Go.Ground.data }, { on := 24, ground := Go.Ground.data }], guard := none }) (v := ?v25y7) rfl (by kernel_rfl) (by kernel_rfl) (by kernel_rfl) (fun _ _ _ h => h) (Or.inl ⟨by rfl, ?h25y7⟩) ?r25y7
        case h25y7 => (intro W; go_simp; try with_reducible rfl)
        simp only [Act.put, List.setIfInBounds_toArray, List.set_cons_zero, List.set_cons_succ]
        refine wpAny_done (by kernel_rfl) ?_ _
        go_wp2
        go_ret
        exact ⟨by rw [HF.out]; rfl, HBEL.out.trans ((nxt ((Below.refl w0.heap.size w0).drew) hb1).mono hsz)⟩
    · have hlt' : l.length ≤ k := by omega
      have HF := hidM (HO.out.fin hlt')
      by_cases hm : l.length ≤ 1536
      · have hmi : (l.length : Int) ≤ 1536 := by omega
        rw [decide_eq_true hm] at HF
        go_wp2
        go_ret
        exact ⟨by rw [HF.out]; rfl, hbel⟩
      · have hmi : ¬ (l.length : Int) ≤ 1536 := by omega
        rw [decide_eq_false hm] at HF
        go_wp2
        go_ret
        exact ⟨by rw [HF.out]; rfl, hbel⟩
end Go.Proofs.YtejgcflcckjlpaaGreatDoor
/- row.Check: its loop. -/
namespace Go.Proofs.YtejgcflcckjlpaaGreatDoor
open Go.RowKit
set_option linter.unusedVariables false
set_option maxRecDepth 100000

set_option maxHeartbeats 6400000 in
theorem rcheck_any (agg bound : Int) (v : Value) (l : List Rw) (w : World) (h : WS w v l) (hl : l.length ≤ 100000) (hls : ∀ r ∈ l, r.2.2.length ≤ 100000) (hcap : CapOk v) :
    Calls Tryz.prog 20 #[.int .i64 agg, .int .i64 bound, v] w fun e w' => e = .returned (.int .i64 (errC (okRows agg bound l))) ∧ Below w.heap.size w w' := by
  have H1 := hidM (fun W => rway_any agg bound W)
  have HS := hidM h
  obtain ⟨a, cap, rfl, hsh⟩ := h
  cases hw : wayC agg bound with
  | false =>
    rw [hw] at H1
    rw [show okRows agg bound l = false by unfold okRows; rw [hw, Bool.false_and]]
    go_enter Tryz.func20, Tryz.ntmps20
    go_wp2_with (go_at_call 35; refine (H1.out _).mono ?_; rintro e W1 ⟨rfl, hb1⟩)
    go_ret
    exact ⟨rfl, hb1⟩
  | true =>
    rw [hw] at H1
    go_enter Tryz.func20, Tryz.ntmps20
    go_wp2_with (go_at_call 35; refine (H1.out _).mono ?_; rintro e W1 ⟨rfl, hb1⟩)
    go_loopw [15] (fun i wr => ∃ k : Nat, k ≤ l.length ∧ i = .int .i64 k ∧ OkTo agg bound l k ∧ Below w.heap.size w wr) (fun i _ => l.length - (intOf i).toNat)
    case atStart => exact ⟨0, by omega, rfl, OkTo.start _ _ _, hb1⟩
    case round =>
      clear hb1
      rename World => w0
      obtain ⟨k, hk, rfl, hok, hbel⟩ := hrel
      have hsz := hbel.size
      by_cases hlt : k < l.length
      · obtain ⟨⟨⟨ya, yb⟩, yn, yl⟩, hy⟩ := getSome hlt
        rcases hsh with rfl | ⟨b, off, rfl, hb, hat⟩
        · simp at hlt
        have hyl : yl.length ≤ 100000 := hls _ (List.mem_of_getElem? hy)
        obtain ⟨c0, c1, c2, s1, p1, c3, n1⟩ := (hat.below hbel hb) k _ hy
        simp only at c0 c1 c2 c3 n1
        obtain ⟨Wa, hWa⟩ : ∃ Wa : World, Wa = w0.alloc (.cells #[.int .i64 ya, .string yb, .int .i64 yn, .slice s1 yl.length p1] 47) := ⟨_, rfl⟩
        have hba : Below w0.heap.size w0 Wa := by rw [hWa]; exact (Below.refl _ _).alloc (Nat.le_refl _) _
        have B4 : Blk4 Wa w0.heap.size (.int .i64 ya) (.string yb) (.int .i64 yn) (.slice s1 yl.length p1) := by rw [hWa]; exact Blk4.new w0 _ _ _ _
        have HA := hidM hWa.symm
        have HR := hidM (show ∀ W, Below Wa.heap.size Wa W → W.cell? ⟨w0.heap.size, 0, none⟩ = some (.int .i64 ya) ∧ W.cell? ⟨w0.heap.size, 1, none⟩ = some (.string yb) ∧ W.cell? ⟨w0.heap.size, 2, none⟩ = some (.int .i64 yn) ∧ W.cell? ⟨w0.heap.size, 3, none⟩ = some (.slice s1 yl.length p1) ∧ Below Wa.heap.size Wa W from fun W hW =>
          ⟨(B4.below hW).cells.1, (B4.below hW).cells.2.1, (B4.below hW).cells.2.2.1, (B4.below hW).cells.2.2.2.1, hW⟩)
        have hbw : Below w.heap.size w Wa := hbel.trans (hba.mono hsz)
        have HC1 := hidM (fun W => kcheck_any (ya, yb) W)
        have HC2 := hidM (fun W (hW : Below Wa.heap.size Wa W) => check_any agg bound _ (yn, yl) W ⟨s1, p1, rfl, (n1.below hba).below hW⟩ hyl)
        have HC3 := hidM (fun W (hW : Below Wa.heap.size Wa W) => mayFollow_any (.slice (some ⟨b, off, none⟩) k cap) (l.take k) (ya, yb) W (WS.take (HS.out.below (nxt hbw hW)) k (by omega) cap) (by simp; omega))
        have HBW := hidM hbw
        have hkc : k ≤ cap := Nat.le_trans hk hcap
        have hkl : k ≤ l.length := hk
        have HST := hidM (fun (h1 : yb.size ≤ 64) (h2 : chk agg bound (yn, yl) = true) (h3 : mayFol (l.take k) (ya, yb) = true) => hok.step hy h1 h2 h3)
        have HBAD := hidM (fun (h : ¬ (yb.size ≤ 64 ∧ chk agg bound (yn, yl) = true ∧ mayFol (l.take k) (ya, yb) = true)) => hok.bad hy h)
        clear hWa hbel hat n1 hba hbw B4 hy hok hcap
        by_cases hq1 : yb.size ≤ 64
        · rw [if_pos (show (ya, yb).2.size ≤ 64 from hq1)] at HC1
          cases hq2 : chk agg bound (yn, yl) with
          | true =>
           rw [hq2, show errC true = 0 from rfl] at HC2
           cases hq3 : mayFol (l.take k) (ya, yb) with
           | true =>
            rw [hq3] at HC3
            have HO := hidM (HST.out hq1 hq2 hq3)
            clear hq1 hq2 hq3 HST HBAD
            go_wp2_with fail
            rw [HA.out]
            go_region_held3 (fun W => W.cell? ⟨w0.heap.size, 0, none⟩ = some (.int .i64 ya) ∧ W.cell? ⟨w0.heap.size, 1, none⟩ = some (.string yb) ∧ W.cell? ⟨w0.heap.size, 2, none⟩ = some (.int .i64 yn) ∧ W.cell? ⟨w0.heap.size, 3, none⟩ = some (.slice s1 yl.length p1) ∧ Below Wa.heap.size Wa W)
              (first | exact HR.out _ (Below.refl _ _).drew | exact HR.out _ (nxt (Below.refl Wa.heap.size Wa).drew hb1) | exact HR.out _ (nxt (nxt (Below.refl Wa.heap.size Wa).drew hb1) hb2) | exact HR.out _ (nxt (nxt (nxt (Below.refl Wa.heap.size Wa).drew hb1) hb2) hb3))
              (first
                | (go_at_call 36; refine (HC1.out _).mono ?_; rintro e W1 ⟨rfl, hb1⟩)
                | (go_at_call 37; refine (HC2.out _ (‹_ ∧ _ ∧ _ ∧ _ ∧ Below Wa.heap.size Wa _›).2.2.2.2).mono ?_; rintro e W2 ⟨rfl, hb2⟩)
                | (go_at_call 38; refine (HC3.out _ (‹_ ∧ _ ∧ _ ∧ _ ∧ Below Wa.heap.size Wa _›).2.2.2.2).mono ?_; rintro e W3 ⟨rfl, hb3⟩))
            go_wp2
            go_roundw
            case rel => exact ⟨k + 1, by omega, by go_num, HO.out, nxt HBW.out (nxt (nxt (nxt (Below.refl Wa.heap.size Wa).drew hb1) hb2) hb3)⟩
            case measure => simp [intOf]; omega
           | false =>
            rw [hq3] at HC3
            have HO := hidM (HBAD.out (fun h => by rw [hq3] at h; exact absurd h.2.2 (by decide)))
            clear hq1 hq2 hq3 HST HBAD
            go_wp2_with fail
            rw [HA.out]
            go_region_held3 (fun W => W.cell? ⟨w0.heap.size, 0, none⟩ = some (.int .i64 ya) ∧ W.cell? ⟨w0.heap.size, 1, none⟩ = some (.string yb) ∧ W.cell? ⟨w0.heap.size, 2, none⟩ = some (.int .i64 yn) ∧ W.cell? ⟨w0.heap.size, 3, none⟩ = some (.slice s1 yl.length p1) ∧ Below Wa.heap.size Wa W)
              (first | exact HR.out _ (Below.refl _ _).drew | exact HR.out _ (nxt (Below.refl Wa.heap.size Wa).drew hb1) | exact HR.out _ (nxt (nxt (Below.refl Wa.heap.size Wa).drew hb1) hb2) | exact HR.out _ (nxt (nxt (nxt (Below.refl Wa.heap.size Wa).drew hb1) hb2) hb3))
              (first
                | (go_at_call 36; refine (HC1.out _).mono ?_; rintro e W1 ⟨rfl, hb1⟩)
                | (go_at_call 37; refine (HC2.out _ (‹_ ∧ _ ∧ _ ∧ _ ∧ Below Wa.heap.size Wa _›).2.2.2.2).mono ?_; rintro e W2 ⟨rfl, hb2⟩)
                | (go_at_call 38; refine (HC3.out _ (‹_ ∧ _ ∧ _ ∧ _ ∧ Below Wa.heap.size Wa _›).2.2.2.2).mono ?_; rintro e W3 ⟨rfl, hb3⟩))
            go_wp2
            go_ret
            exact ⟨by rw [HO.out]; rfl, nxt HBW.out (nxt (nxt (nxt (Below.refl Wa.heap.size Wa).drew hb1) hb2) hb3)⟩
          | false =>
            rw [hq2, show errC false = 1 from rfl] at HC2
            have HO := hidM (HBAD.out (fun h => by rw [hq2] at h; exact absurd h.2.1 (by decide)))
            clear hq1 hq2 HST HBAD
            obtain ⟨q0, q1, q2, q3, -⟩ := HR.out Wa (Below.refl _ _)
            go_wp2_with fail
            rw [HA.out]
            refine wp_region_any (by kernel_rfl) ?_
            change wpAny _ _ _ _ _ _ _ (World.drew _)
            refine wpAny_take (i := 0) (oi := { dst := some 20, op := Go.Op.fieldAddr 47 (Go.Operand.tmp 8) 0, type := 0, pos := "row.go:20", after := #[], guard := none }) (v := ?v0y1) rfl (by kernel_rfl) (by kernel_rfl) (by kernel_rfl) (fun _ _ _ h => h) (Or.inl ⟨by rfl, ?h0y1⟩) ?r0y1
            case h0y1 => (intro W; go_simp; try with_reducible rfl)
            simp only [Act.put, List.setIfInBounds_toArray, List.set_cons_zero, List.set_cons_succ]
            refine wpAny_ready (rs := [1]) (by kernel_rfl) (by simp) ?_
            refine AllReady.cons (o := { dst := some 21, op := Go.Op.load 42 (Go.Operand.tmp 20), type := 42, pos := "row.go:20", after := #[{ on := 0, ground := Go.Ground.data }], guard := none }) rfl (fun K hK => ?_) AllReady.nil
            go_simp
            refine hK _ _ ?_
            clear hK K
            try simp only [Act.put, List.setIfInBounds_toArray, List.set_cons_zero, List.set_cons_succ]
            refine wpAny_ready (rs := [2]) (by kernel_rfl) (by simp) ?_
            refine AllReady.cons (o := { dst := some 22, op := Go.Op.call { callee := Go.Callee.value (Go.Operand.func 36), args := #[Go.Operand.tmp 21], argTypes := #[42] }, type := 30, pos := "row.go:20", after := #[{ on := 1, ground := Go.Ground.data }], guard := none }) rfl (fun K hK => ?_) AllReady.nil
            go_simp
            refine (HC1.out _).mono ?_
            rintro e W1 ⟨rfl, hb1⟩
            obtain ⟨r0, r1, r2, r3, -⟩ := HR.out _ (nxt (Below.refl Wa.heap.size Wa).drew hb1)
            refine hK _ _ ?_
            clear hK K
            try simp only [Act.put, List.setIfInBounds_toArray, List.set_cons_zero, List.set_cons_succ]
            refine wpAny_take (i := 3) (oi := { dst := some 23, op := Go.Op.binOp Go.BinOp.neq 30 (Go.Operand.tmp 22) (Go.Operand.const (Go.Value.int Go.IntKind.i64 0)) 30, type := 4, pos := "row.go:20", after := #[{ on := 2, ground := Go.Ground.data }], guard := none }) (v := ?v3y2) rfl (by kernel_rfl) (by kernel_rfl) (by kernel_rfl) (fun _ _ _ h => h) (Or.inl ⟨by rfl, ?h3y2⟩) ?r3y2
            case h3y2 => (intro W; go_simp; try with_reducible rfl)
            simp only [Act.put, List.setIfInBounds_toArray, List.set_cons_zero, List.set_cons_succ]
            refine wpAny_take (i := 4) (oi := { dst := some 24, op := Go.Op.move (Go.Operand.tmp 23), type := 4, pos := "row.go:20", after := #[{ on := 3, ground := Go.Ground.data }, { on := 2, ground := Go.Ground.chain }], guard := none }) (v := ?v4y3) rfl (by kernel_rfl) (by kernel_rfl) (by kernel_rfl) (fun _ _ _ h => h) (Or.inl ⟨by rfl, ?h4y3⟩) ?r4y3
            case h4y3 => (intro W; go_simp; try with_reducible rfl)
            simp only [Act.put, List.setIfInBounds_toArray, List.set_cons_zero, List.set_cons_succ]
            refine wpAny_take (i := 5) (oi := { dst := some 25, op := Go.Op.move (Go.Operand.tmp 0), type := 3, pos := "row.go:20", after := #[{ on := 4, ground := Go.Ground.guard }], guard := some (4, false) }) (v := ?v5y4) rfl (by kernel_rfl) (by kernel_rfl) (by kernel_rfl) (fun _ _ _ h => h) (Or.inl ⟨by rfl, ?h5y4⟩) ?r5y4
            case h5y4 => (intro W; go_simp; try with_reducible rfl)
            simp only [Act.put, List.setIfInBounds_toArray, List.set_cons_zero, List.set_cons_succ]
            refine wpAny_take (i := 6) (oi := { dst := some 26, op := Go.Op.move (Go.Operand.tmp 1), type := 3, pos := "row.go:20", after := #[{ on := 4, ground := Go.Ground.guard }], guard := some (4, false) }) (v := ?v6y5) rfl (by kernel_rfl) (by kernel_rfl) (by kernel_rfl) (fun _ _ _ h => h) (Or.inl ⟨by rfl, ?h6y5⟩) ?r6y5
            case h6y5 => (intro W; go_simp; try with_reducible rfl)
            simp only [Act.put, List.setIfInBounds_toArray, List.set_cons_zero, List.set_cons_succ]
            refine wpAny_take (i := 7) (oi := { dst := some 27, op := Go.Op.fieldAddr 47 (Go.Operand.tmp 8) 1, type := 0, pos := "row.go:20", after := #[{ on := 4, ground := Go.Ground.guard }], guard := some (4, false) }) (v := ?v7y6) rfl (by kernel_rfl) (by kernel_rfl) (by kernel_rfl) (fun _ _ _ h => h) (Or.inl ⟨by rfl, ?h7y6⟩) ?r7y6
            case h7y6 => (intro W; go_simp; try with_reducible rfl)
            simp only [Act.put, List.setIfInBounds_toArray, List.set_cons_zero, List.set_cons_succ]
            refine wpAny_ready (rs := [8]) (by kernel_rfl) (by simp) ?_
            refine AllReady.cons (o := { dst := some 28, op := Go.Op.load 45 (Go.Operand.tmp 27), type := 45, pos := "row.go:20", after := #[{ on := 7, ground := Go.Ground.data }, { on := 4, ground := Go.Ground.guard }], guard := some (4, false) }) rfl (fun K hK => ?_) AllReady.nil
            go_simp
            refine hK _ _ ?_
            clear hK K
            try simp only [Act.put, List.setIfInBounds_toArray, List.set_cons_zero, List.set_cons_succ]
            refine wpAny_ready (rs := [9]) (by kernel_rfl) (by simp) ?_
            refine AllReady.cons (o := { dst := some 29, op := Go.Op.call { callee := Go.Callee.value (Go.Operand.func 37), args := #[Go.Operand.tmp 25, Go.Operand.tmp 26, Go.Operand.tmp 28], argTypes := #[3, 3, 45] }, type := 30, pos := "row.go:20", after := #[{ on := 5, ground := Go.Ground.data }, { on := 6, ground := Go.Ground.data }, { on := 8, ground := Go.Ground.data }, { on := 4, ground := Go.Ground.chain }, { on := 4, ground := Go.Ground.guard }], guard := some (4, false) }) rfl (fun K hK => ?_) AllReady.nil
            go_simp
            refine (HC2.out _ (nxt (Below.refl Wa.heap.size Wa).drew hb1)).mono ?_
            rintro e W2 ⟨rfl, hb2⟩
            refine hK _ _ ?_
            clear hK K
            try simp only [Act.put, List.setIfInBounds_toArray, List.set_cons_zero, List.set_cons_succ]
            refine wpAny_take (i := 10) (oi := { dst := some 30, op := Go.Op.binOp Go.BinOp.neq 30 (Go.Operand.tmp 29) (Go.Operand.const (Go.Value.int Go.IntKind.i64 0)) 30, type := 4, pos := "row.go:20", after := #[{ on := 9, ground := Go.Ground.data }, { on := 4, ground := Go.Ground.guard }], guard := some (4, false) }) (v := ?v10y7) rfl (by kernel_rfl) (by kernel_rfl) (by kernel_rfl) (fun _ _ _ h => h) (Or.inl ⟨by rfl, ?h10y7⟩) ?r10y7
            case h10y7 => (intro W; go_simp; try with_reducible rfl)
            simp only [Act.put, List.setIfInBounds_toArray, List.set_cons_zero, List.set_cons_succ]
            refine wpAny_take (i := 11) (oi := { dst := some 31, op := Go.Op.pick (Go.Operand.tmp 24) (Go.Operand.const (Go.Value.bool true)) (Go.Operand.tmp 30), type := 4, pos := "row.go:20", after := #[{ on := 4, ground := Go.Ground.data }, { on := 10, ground := Go.Ground.data }], guard := none }) (v := ?v11y8) rfl (by kernel_rfl) (by kernel_rfl) (by kernel_rfl) (fun _ _ _ h => h) (Or.inl ⟨by rfl, ?h11y8⟩) ?r11y8
            case h11y8 => (intro W; go_simp; try with_reducible rfl)
            simp only [Act.put, List.setIfInBounds_toArray, List.set_cons_zero, List.set_cons_succ]
            refine wpAny_take (i := 12) (oi := { dst := some 32, op := Go.Op.move (Go.Operand.tmp 31), type := 4, pos := "row.go:20", after := #[{ on := 11, ground := Go.Ground.data }, { on := 9, ground := Go.Ground.chain }], guard := none }) (v := ?v12y9) rfl (by kernel_rfl) (by kernel_rfl) (by kernel_rfl) (fun _ _ _ h => h) (Or.inl ⟨by rfl, ?h12y9⟩) ?r12y9
            case h12y9 => (intro W; go_simp; try with_reducible rfl)
            simp only [Act.put, List.setIfInBounds_toArray, List.set_cons_zero, List.set_cons_succ]
            refine wpAny_take (i := 13) (oi := { dst := some 33, op := Go.Op.move (Go.Operand.tmp 2), type := 29, pos := "row.go:20", after := #[{ on := 12, ground := Go.Ground.guard }], guard := some (12, false) }) (v := undef) rfl (by kernel_rfl) (by kernel_rfl) (by kernel_rfl) (fun _ _ _ h => h) (Or.inr ⟨by rfl, rfl⟩) ?_
            simp only [Act.put, List.setIfInBounds_toArray, List.set_cons_zero, List.set_cons_succ]
            refine wpAny_take (i := 14) (oi := { dst := some 34, op := Go.Op.move (Go.Operand.tmp 7), type := 3, pos := "row.go:20", after := #[{ on := 12, ground := Go.Ground.guard }], guard := some (12, false) }) (v := undef) rfl (by kernel_rfl) (by kernel_rfl) (by kernel_rfl) (fun _ _ _ h => h) (Or.inr ⟨by rfl, rfl⟩) ?_
            simp only [Act.put, List.setIfInBounds_toArray, List.set_cons_zero, List.set_cons_succ]
            refine wpAny_take (i := 15) (oi := { dst := some 35, op := Go.Op.slice 29 (Go.Operand.tmp 33) none (some (Go.Operand.tmp 34)) none, type := 29, pos := "row.go:20", after := #[{ on := 13, ground := Go.Ground.data }, { on := 14, ground := Go.Ground.data }, { on := 12, ground := Go.Ground.guard }], guard := some (12, false) }) (v := undef) rfl (by kernel_rfl) (by kernel_rfl) (by kernel_rfl) (fun _ _ _ h => h) (Or.inr ⟨by rfl, rfl⟩) ?_
            simp only [Act.put, List.setIfInBounds_toArray, List.set_cons_zero, List.set_cons_succ]
            refine wpAny_take (i := 16) (oi := { dst := some 36, op := Go.Op.fieldAddr 47 (Go.Operand.tmp 8) 0, type := 0, pos := "row.go:20", after := #[{ on := 12, ground := Go.Ground.guard }], guard := some (12, false) }) (v := undef) rfl (by kernel_rfl) (by kernel_rfl) (by kernel_rfl) (fun _ _ _ h => h) (Or.inr ⟨by rfl, rfl⟩) ?_
            simp only [Act.put, List.setIfInBounds_toArray, List.set_cons_zero, List.set_cons_succ]
            refine wpAny_take (i := 17) (oi := { dst := some 37, op := Go.Op.load 42 (Go.Operand.tmp 36), type := 42, pos := "row.go:20", after := #[{ on := 16, ground := Go.Ground.data }, { on := 12, ground := Go.Ground.guard }], guard := some (12, false) }) (v := undef) rfl (by kernel_rfl) (by kernel_rfl) (by kernel_rfl) (fun _ _ _ h => h) (Or.inr ⟨by rfl, rfl⟩) ?_
            simp only [Act.put, List.setIfInBounds_toArray, List.set_cons_zero, List.set_cons_succ]
            refine wpAny_take (i := 18) (oi := { dst := some 38, op := Go.Op.call { callee := Go.Callee.value (Go.Operand.func 38), args := #[Go.Operand.tmp 35, Go.Operand.tmp 37], argTypes := #[29, 42] }, type := 4, pos := "row.go:20", after := #[{ on := 15, ground := Go.Ground.data }, { on := 17, ground := Go.Ground.data }, { on := 12, ground := Go.Ground.chain }, { on := 12, ground := Go.Ground.guard }], guard := some (12, false) }) (v := undef) rfl (by kernel_rfl) (by kernel_rfl) (by kernel_rfl) (fun _ _ _ h => h) (Or.inr ⟨by rfl, rfl⟩) ?_
            simp only [Act.put, List.setIfInBounds_toArray, List.set_cons_zero, List.set_cons_succ]
            refine wpAny_take (i := 19) (oi := { dst := some 39, op := Go.Op.unOp Go.UnOp.not 4 (Go.Operand.tmp 38), type := 4, pos := "row.go:20", after := #[{ on := 18, ground := Go.Ground.data }, { on := 12, ground := Go.Ground.guard }], guard := some (12, false) }) (v := undef) rfl (by kernel_rfl) (by kernel_rfl) (by kernel_rfl) (fun _ _ _ h => h) (Or.inr ⟨by rfl, rfl⟩) ?_
            simp only [Act.put, List.setIfInBounds_toArray, List.set_cons_zero, List.set_cons_succ]
            refine wpAny_take (i := 20) (oi := { dst := some 40, op := Go.Op.pick (Go.Operand.tmp 32) (Go.Operand.const (Go.Value.bool true)) (Go.Operand.tmp 39), type := 4, pos := "row.go:20", after := #[{ on := 12, ground := Go.Ground.data }, { on := 19, ground := Go.Ground.data }], guard := none }) (v := ?v20y10) rfl (by kernel_rfl) (by kernel_rfl) (by kernel_rfl) (fun _ _ _ h => h) (Or.inl ⟨by rfl, ?h20y10⟩) ?r20y10
            case h20y10 => (intro W; go_simp; try with_reducible rfl)
            simp only [Act.put, List.setIfInBounds_toArray, List.set_cons_zero, List.set_cons_succ]
            refine wpAny_done (by kernel_rfl) ?_ _
            go_wp2
            go_ret
            exact ⟨by rw [HO.out]; rfl, nxt HBW.out (nxt (nxt (Below.refl Wa.heap.size Wa).drew hb1) hb2)⟩
        · rw [if_neg (show ¬ (ya, yb).2.size ≤ 64 from hq1)] at HC1
          have HO := hidM (HBAD.out (fun h => hq1 h.1))
          clear hq1 HST HBAD
          obtain ⟨q0, q1, q2, q3, -⟩ := HR.out Wa (Below.refl _ _)
          go_wp2_with fail
          rw [HA.out]
          refine wp_region_any (by kernel_rfl) ?_
          change wpAny _ _ _ _ _ _ _ (World.drew _)
          refine wpAny_take (i := 0) (oi := { dst := some 20, op := Go.Op.fieldAddr 47 (Go.Operand.tmp 8) 0, type := 0, pos := "row.go:20", after := #[], guard := none }) (v := ?v0y11) rfl (by kernel_rfl) (by kernel_rfl) (by kernel_rfl) (fun _ _ _ h => h) (Or.inl ⟨by rfl, ?h0y11⟩) ?r0y11
          case h0y11 => (intro W; go_simp; try with_reducible rfl)
          simp only [Act.put, List.setIfInBounds_toArray, List.set_cons_zero, List.set_cons_succ]
          refine wpAny_ready (rs := [1]) (by kernel_rfl) (by simp) ?_
          refine AllReady.cons (o := { dst := some 21, op := Go.Op.load 42 (Go.Operand.tmp 20), type := 42, pos := "row.go:20", after := #[{ on := 0, ground := Go.Ground.data }], guard := none }) rfl (fun K hK => ?_) AllReady.nil
          go_simp
          refine hK _ _ ?_
          clear hK K
          try simp only [Act.put, List.setIfInBounds_toArray, List.set_cons_zero, List.set_cons_succ]
          refine wpAny_ready (rs := [2]) (by kernel_rfl) (by simp) ?_
          refine AllReady.cons (o := { dst := some 22, op := Go.Op.call { callee := Go.Callee.value (Go.Operand.func 36), args := #[Go.Operand.tmp 21], argTypes := #[42] }, type := 30, pos := "row.go:20", after := #[{ on := 1, ground := Go.Ground.data }], guard := none }) rfl (fun K hK => ?_) AllReady.nil
          go_simp
          refine (HC1.out _).mono ?_
          rintro e W1 ⟨rfl, hb1⟩
          obtain ⟨r0, r1, r2, r3, -⟩ := HR.out _ (nxt (Below.refl Wa.heap.size Wa).drew hb1)
          refine hK _ _ ?_
          clear hK K
          try simp only [Act.put, List.setIfInBounds_toArray, List.set_cons_zero, List.set_cons_succ]
          refine wpAny_take (i := 3) (oi := { dst := some 23, op := Go.Op.binOp Go.BinOp.neq 30 (Go.Operand.tmp 22) (Go.Operand.const (Go.Value.int Go.IntKind.i64 0)) 30, type := 4, pos := "row.go:20", after := #[{ on := 2, ground := Go.Ground.data }], guard := none }) (v := ?v3y12) rfl (by kernel_rfl) (by kernel_rfl) (by kernel_rfl) (fun _ _ _ h => h) (Or.inl ⟨by rfl, ?h3y12⟩) ?r3y12
          case h3y12 => (intro W; go_simp; try with_reducible rfl)
          simp only [Act.put, List.setIfInBounds_toArray, List.set_cons_zero, List.set_cons_succ]
          refine wpAny_take (i := 4) (oi := { dst := some 24, op := Go.Op.move (Go.Operand.tmp 23), type := 4, pos := "row.go:20", after := #[{ on := 3, ground := Go.Ground.data }, { on := 2, ground := Go.Ground.chain }], guard := none }) (v := ?v4y13) rfl (by kernel_rfl) (by kernel_rfl) (by kernel_rfl) (fun _ _ _ h => h) (Or.inl ⟨by rfl, ?h4y13⟩) ?r4y13
          case h4y13 => (intro W; go_simp; try with_reducible rfl)
          simp only [Act.put, List.setIfInBounds_toArray, List.set_cons_zero, List.set_cons_succ]
          refine wpAny_take (i := 5) (oi := { dst := some 25, op := Go.Op.move (Go.Operand.tmp 0), type := 3, pos := "row.go:20", after := #[{ on := 4, ground := Go.Ground.guard }], guard := some (4, false) }) (v := undef) rfl (by kernel_rfl) (by kernel_rfl) (by kernel_rfl) (fun _ _ _ h => h) (Or.inr ⟨by rfl, rfl⟩) ?_
          simp only [Act.put, List.setIfInBounds_toArray, List.set_cons_zero, List.set_cons_succ]
          refine wpAny_take (i := 6) (oi := { dst := some 26, op := Go.Op.move (Go.Operand.tmp 1), type := 3, pos := "row.go:20", after := #[{ on := 4, ground := Go.Ground.guard }], guard := some (4, false) }) (v := undef) rfl (by kernel_rfl) (by kernel_rfl) (by kernel_rfl) (fun _ _ _ h => h) (Or.inr ⟨by rfl, rfl⟩) ?_
          simp only [Act.put, List.setIfInBounds_toArray, List.set_cons_zero, List.set_cons_succ]
          refine wpAny_take (i := 7) (oi := { dst := some 27, op := Go.Op.fieldAddr 47 (Go.Operand.tmp 8) 1, type := 0, pos := "row.go:20", after := #[{ on := 4, ground := Go.Ground.guard }], guard := some (4, false) }) (v := undef) rfl (by kernel_rfl) (by kernel_rfl) (by kernel_rfl) (fun _ _ _ h => h) (Or.inr ⟨by rfl, rfl⟩) ?_
          simp only [Act.put, List.setIfInBounds_toArray, List.set_cons_zero, List.set_cons_succ]
          refine wpAny_take (i := 8) (oi := { dst := some 28, op := Go.Op.load 45 (Go.Operand.tmp 27), type := 45, pos := "row.go:20", after := #[{ on := 7, ground := Go.Ground.data }, { on := 4, ground := Go.Ground.guard }], guard := some (4, false) }) (v := undef) rfl (by kernel_rfl) (by kernel_rfl) (by kernel_rfl) (fun _ _ _ h => h) (Or.inr ⟨by rfl, rfl⟩) ?_
          simp only [Act.put, List.setIfInBounds_toArray, List.set_cons_zero, List.set_cons_succ]
          refine wpAny_take (i := 9) (oi := { dst := some 29, op := Go.Op.call { callee := Go.Callee.value (Go.Operand.func 37), args := #[Go.Operand.tmp 25, Go.Operand.tmp 26, Go.Operand.tmp 28], argTypes := #[3, 3, 45] }, type := 30, pos := "row.go:20", after := #[{ on := 5, ground := Go.Ground.data }, { on := 6, ground := Go.Ground.data }, { on := 8, ground := Go.Ground.data }, { on := 4, ground := Go.Ground.chain }, { on := 4, ground := Go.Ground.guard }], guard := some (4, false) }) (v := undef) rfl (by kernel_rfl) (by kernel_rfl) (by kernel_rfl) (fun _ _ _ h => h) (Or.inr ⟨by rfl, rfl⟩) ?_
          simp only [Act.put, List.setIfInBounds_toArray, List.set_cons_zero, List.set_cons_succ]
          refine wpAny_take (i := 10) (oi := { dst := some 30, op := Go.Op.binOp Go.BinOp.neq 30 (Go.Operand.tmp 29) (Go.Operand.const (Go.Value.int Go.IntKind.i64 0)) 30, type := 4, pos := "row.go:20", after := #[{ on := 9, ground := Go.Ground.data }, { on := 4, ground := Go.Ground.guard }], guard := some (4, false) }) (v := undef) rfl (by kernel_rfl) (by kernel_rfl) (by kernel_rfl) (fun _ _ _ h => h) (Or.inr ⟨by rfl, rfl⟩) ?_
          simp only [Act.put, List.setIfInBounds_toArray, List.set_cons_zero, List.set_cons_succ]
          refine wpAny_take (i := 11) (oi := { dst := some 31, op := Go.Op.pick (Go.Operand.tmp 24) (Go.Operand.const (Go.Value.bool true)) (Go.Operand.tmp 30), type := 4, pos := "row.go:20", after := #[{ on := 4, ground := Go.Ground.data }, { on := 10, ground := Go.Ground.data }], guard := none }) (v := ?v11y14) rfl (by kernel_rfl) (by kernel_rfl) (by kernel_rfl) (fun _ _ _ h => h) (Or.inl ⟨by rfl, ?h11y14⟩) ?r11y14
          case h11y14 => (intro W; go_simp; try with_reducible rfl)
          simp only [Act.put, List.setIfInBounds_toArray, List.set_cons_zero, List.set_cons_succ]
          refine wpAny_take (i := 12) (oi := { dst := some 32, op := Go.Op.move (Go.Operand.tmp 31), type := 4, pos := "row.go:20", after := #[{ on := 11, ground := Go.Ground.data }, { on := 9, ground := Go.Ground.chain }], guard := none }) (v := ?v12y15) rfl (by kernel_rfl) (by kernel_rfl) (by kernel_rfl) (fun _ _ _ h => h) (Or.inl ⟨by rfl, ?h12y15⟩) ?r12y15
          case h12y15 => (intro W; go_simp; try with_reducible rfl)
          simp only [Act.put, List.setIfInBounds_toArray, List.set_cons_zero, List.set_cons_succ]
          refine wpAny_take (i := 13) (oi := { dst := some 33, op := Go.Op.move (Go.Operand.tmp 2), type := 29, pos := "row.go:20", after := #[{ on := 12, ground := Go.Ground.guard }], guard := some (12, false) }) (v := undef) rfl (by kernel_rfl) (by kernel_rfl) (by kernel_rfl) (fun _ _ _ h => h) (Or.inr ⟨by rfl, rfl⟩) ?_
          simp only [Act.put, List.setIfInBounds_toArray, List.set_cons_zero, List.set_cons_succ]
          refine wpAny_take (i := 14) (oi := { dst := some 34, op := Go.Op.move (Go.Operand.tmp 7), type := 3, pos := "row.go:20", after := #[{ on := 12, ground := Go.Ground.guard }], guard := some (12, false) }) (v := undef) rfl (by kernel_rfl) (by kernel_rfl) (by kernel_rfl) (fun _ _ _ h => h) (Or.inr ⟨by rfl, rfl⟩) ?_
          simp only [Act.put, List.setIfInBounds_toArray, List.set_cons_zero, List.set_cons_succ]
          refine wpAny_take (i := 15) (oi := { dst := some 35, op := Go.Op.slice 29 (Go.Operand.tmp 33) none (some (Go.Operand.tmp 34)) none, type := 29, pos := "row.go:20", after := #[{ on := 13, ground := Go.Ground.data }, { on := 14, ground := Go.Ground.data }, { on := 12, ground := Go.Ground.guard }], guard := some (12, false) }) (v := undef) rfl (by kernel_rfl) (by kernel_rfl) (by kernel_rfl) (fun _ _ _ h => h) (Or.inr ⟨by rfl, rfl⟩) ?_
          simp only [Act.put, List.setIfInBounds_toArray, List.set_cons_zero, List.set_cons_succ]
          refine wpAny_take (i := 16) (oi := { dst := some 36, op := Go.Op.fieldAddr 47 (Go.Operand.tmp 8) 0, type := 0, pos := "row.go:20", after := #[{ on := 12, ground := Go.Ground.guard }], guard := some (12, false) }) (v := undef) rfl (by kernel_rfl) (by kernel_rfl) (by kernel_rfl) (fun _ _ _ h => h) (Or.inr ⟨by rfl, rfl⟩) ?_
          simp only [Act.put, List.setIfInBounds_toArray, List.set_cons_zero, List.set_cons_succ]
          refine wpAny_take (i := 17) (oi := { dst := some 37, op := Go.Op.load 42 (Go.Operand.tmp 36), type := 42, pos := "row.go:20", after := #[{ on := 16, ground := Go.Ground.data }, { on := 12, ground := Go.Ground.guard }], guard := some (12, false) }) (v := undef) rfl (by kernel_rfl) (by kernel_rfl) (by kernel_rfl) (fun _ _ _ h => h) (Or.inr ⟨by rfl, rfl⟩) ?_
          simp only [Act.put, List.setIfInBounds_toArray, List.set_cons_zero, List.set_cons_succ]
          refine wpAny_take (i := 18) (oi := { dst := some 38, op := Go.Op.call { callee := Go.Callee.value (Go.Operand.func 38), args := #[Go.Operand.tmp 35, Go.Operand.tmp 37], argTypes := #[29, 42] }, type := 4, pos := "row.go:20", after := #[{ on := 15, ground := Go.Ground.data }, { on := 17, ground := Go.Ground.data }, { on := 12, ground := Go.Ground.chain }, { on := 12, ground := Go.Ground.guard }], guard := some (12, false) }) (v := undef) rfl (by kernel_rfl) (by kernel_rfl) (by kernel_rfl) (fun _ _ _ h => h) (Or.inr ⟨by rfl, rfl⟩) ?_
          simp only [Act.put, List.setIfInBounds_toArray, List.set_cons_zero, List.set_cons_succ]
          refine wpAny_take (i := 19) (oi := { dst := some 39, op := Go.Op.unOp Go.UnOp.not 4 (Go.Operand.tmp 38), type := 4, pos := "row.go:20", after := #[{ on := 18, ground := Go.Ground.data }, { on := 12, ground := Go.Ground.guard }], guard := some (12, false) }) (v := undef) rfl (by kernel_rfl) (by kernel_rfl) (by kernel_rfl) (fun _ _ _ h => h) (Or.inr ⟨by rfl, rfl⟩) ?_
          simp only [Act.put, List.setIfInBounds_toArray, List.set_cons_zero, List.set_cons_succ]
          refine wpAny_take (i := 20) (oi := { dst := some 40, op := Go.Op.pick (Go.Operand.tmp 32) (Go.Operand.const (Go.Value.bool true)) (Go.Operand.tmp 39), type := 4, pos := "row.go:20", after := #[{ on := 12, ground := Go.Ground.data }, { on := 19, ground := Go.Ground.data }], guard := none }) (v := ?v20y16) rfl (by kernel_rfl) (by kernel_rfl) (by kernel_rfl) (fun _ _ _ h => h) (Or.inl ⟨by rfl, ?h20y16⟩) ?r20y16
          case h20y16 => (intro W; go_simp; try with_reducible rfl)
          simp only [Act.put, List.setIfInBounds_toArray, List.set_cons_zero, List.set_cons_succ]
          refine wpAny_done (by kernel_rfl) ?_ _
          go_wp2
          go_ret
          exact ⟨by rw [HO.out]; rfl, nxt HBW.out (nxt (Below.refl Wa.heap.size Wa).drew hb1)⟩
      · have hlt' : l.length ≤ k := by omega
        have HF := hidM (hok.fin hw hlt')
        go_wp2
        go_ret
        exact ⟨by rw [HF.out]; rfl, hbel⟩
end Go.Proofs.YtejgcflcckjlpaaGreatDoor
/- Texts laid together: PTMay, PTMayF. -/
/- part.mayStand: may rows be, as key and order go. -/
namespace Go.Proofs.YtejgcflcckjlpaaGreatDoor
open Go.RowKit
set_option linter.unusedVariables false
set_option maxRecDepth 100000

theorem Tryz.infoRow4 : (Tryz.prog.info? 47).map (fun i => (i.zero, i.size, i.bytes)) = some (some (.agg #[.int .i64 0, .string ⟨#[]⟩, .int .i64 0, .slice none 0 0]), 4, 56) := by kernel_rfl
/-- Rows without their cells. -/
def bareR (l : List Rw) : List Rw := l.map fun r => (r.1, (0, []))
theorem bare_rise (l : List Rw) : RiseK (bareR l) ↔ RiseK l := by unfold bareR RiseK; rw [List.pairwise_map]
theorem ord_bare (l : List Rw) : ordB (bareR l) = ordB l := by
  unfold ordB
  rw [show decide (RiseK (bareR l)) = decide (RiseK l) from decide_eq_decide.2 (bare_rise l)]
  unfold bareR
  rw [List.all_map, List.length_map]
  rfl
theorem okRows_bare (l : List Rw) : okRows 1 0 (bareR l) = ordB l := by
  rw [okRows_ord (agg := 1) (bound := 0) (by decide) (fun r hr => by
    unfold bareR at hr
    obtain ⟨x, _, rfl⟩ := List.mem_map.1 hr
    rw [mayN (by decide) (by decide)]
    rfl), ord_bare]
def bareRaw (l : List Rw) : List Raw := l.map fun r => (r.1, 0, (none, 0, 0))
/-- As they lie when k are done. -/
def bareX (l : List Rw) (k : Nat) : List Raw := bareRaw (l.take k) ++ List.replicate (l.length - k) noRaw
theorem bareX_len (l : List Rw) {k : Nat} (h : k ≤ l.length) : (bareX l k).length = l.length := by unfold bareX bareRaw; simp; omega
theorem bareX_get (l : List Rw) {k : Nat} (h : k < l.length) : (bareX l k)[k]? = some noRaw := by
  unfold bareX bareRaw
  rw [List.getElem?_append_right (by simp; omega), List.length_map, List.length_take, Nat.min_eq_left (by omega), Nat.sub_self, List.getElem?_replicate, if_pos (by omega)]
theorem bareX_set (l : List Rw) {k : Nat} {r : Rw} (h : l[k]? = some r) : (bareX l k).set k (r.1, 0, (none, 0, 0)) = bareX l (k + 1) := by
  have hk : k < l.length := (List.getElem?_eq_some_iff.1 h).1
  unfold bareX bareRaw
  rw [List.set_append_right _ _ (by simp; omega), List.length_map, List.length_take, Nat.min_eq_left (by omega), Nat.sub_self, List.take_add_one, h, show l.length - k = (l.length - (k + 1)) + 1 by omega, List.replicate_succ]
  simp
theorem flatW_key (xs : List Raw) (p : Nat) (x : Raw) (k : Ky) (hx : xs[p]? = some x) : flatW (xs.set p (k, x.2)) = ((flatW xs).set (p * 4) (.int .i64 k.1)).set (p * 4 + 1) (.string k.2) := by
  induction xs generalizing p with
  | nil => simp at hx
  | cons a l ih =>
    cases p with
    | zero => simp at hx; subst hx; rfl
    | succ p =>
      have hx' : l[p]? = some x := by simpa using hx
      rw [List.set_cons_succ]
      show encW a ++ flatW (l.set p (k, x.2)) = (((encW a ++ flatW l).set ((p + 1) * 4) (.int .i64 k.1)).set ((p + 1) * 4 + 1) (.string k.2))
      rw [ih p hx']
      have e0 : (p + 1) * 4 = (encW a).length + (p * 4) := by simp [encW]; omega
      have e1 : (p + 1) * 4 + 1 = (encW a).length + (p * 4 + 1) := by simp [encW]; omega
      rw [e1, e0, List.set_append_right _ _ (by omega), List.set_append_right _ _ (by omega)]
      simp
theorem made_flat (n : Nat) : (madeCells #[Value.int .i64 0, .string ⟨#[]⟩, .int .i64 0, .slice none 0 0] (n * 4)).toList = flatW (List.replicate n noRaw) := by
  induction n with
  | zero => simp [madeCells, flatW]
  | succ n ih =>
    have e : flatW (List.replicate (n + 1) noRaw) = flatW (List.replicate n noRaw) ++ [.int .i64 0, .string ⟨#[]⟩, .int .i64 0, .slice none 0 0] := by
      rw [List.replicate_succ', flatW_app]; rfl
    rw [e, ← ih]
    apply List.ext_getElem?
    intro j
    have hlen : (madeCells #[Value.int .i64 0, .string ⟨#[]⟩, .int .i64 0, .slice none 0 0] (n * 4)).toList.length = n * 4 := by simp [madeCells]
    by_cases hj : j < n * 4
    · rw [List.getElem?_append_left (by omega)]
      simp [madeCells, hj, show j < (n + 1) * 4 by omega]
    · rw [List.getElem?_append_right (by omega), hlen]
      by_cases h4 : j < n * 4 + 4
      · obtain ⟨d, hd, rfl⟩ : ∃ d, d < 4 ∧ j = n * 4 + d := ⟨j - n * 4, by omega, by omega⟩
        have hm : (n * 4 + d) % 4 = d := by omega
        rw [show n * 4 + d - n * 4 = d by omega]
        simp only [madeCells, Array.toList_map, List.getElem?_map, Array.toList_range]
        rw [List.getElem?_range (by omega)]
        simp only [Option.map_some, show (#[Value.int .i64 0, .string ⟨#[]⟩, .int .i64 0, .slice none 0 0] : Array Value).size = 4 from rfl, hm]
        match d, hd with
        | 0, _ => rfl
        | 1, _ => rfl
        | 2, _ => rfl
        | 3, _ => rfl
      · rw [List.getElem?_eq_none (by simp [madeCells]; omega), List.getElem?_eq_none (by simp; omega)]
theorem bare_start (W : World) (base : Nat) (l : List Rw) (hb : base ≤ W.heap.size) (hl : l.length ≤ 100000) :
    ∃ W1, (Instr.makeSlice 29 (.int .i64 (l.length : Int)) (.int .i64 (l.length : Int))).run Tryz.prog W = .ok (runsV W.heap.size l.length) W1 ∧ OwnX W1 base (runsV W.heap.size l.length) (bareX l 0) ∧ Below W.heap.size W W1 ∧ W.heap.size < W1.heap.size := by
  obtain ⟨i0, hi, hz0, hz1, hz2⟩ := info_parts Tryz.infoRow4
  obtain ⟨W1, h1, h2, h3⟩ := run_make_full (P := Tryz.prog) W base 29 47 i0 _ 4 Tryz.underlying29 hi hz0 hz1 .i64 .i64 l.length (by rw [hz2]; omega) (by unfold maxLen; omega) hb
  have e : bareX l 0 = List.replicate l.length noRaw := by unfold bareX bareRaw; simp
  refine ⟨W1, h1, ?_, (Below.refl _ _).grown h3 (Nat.le_refl _) (fun k hk => by cases hk), (h2.lt W.heap.size rfl).2⟩
  unfold OwnX
  rw [e, List.length_replicate, ← made_flat]
  exact h2
theorem bare_step {W : World} {base g k : Nat} {l : List Rw} {r : Rw} (h : OwnX W base (runsV g l.length) (bareX l k)) (hr : l[k]? = some r) :
    OwnX ((W.setCell ⟨g, k * 4, none⟩ (.int .i64 r.1.1)).setCell ⟨g, k * 4 + 1, none⟩ (.string r.1.2)) base (runsV g l.length) (bareX l (k + 1)) := by
  have hk : k < l.length := (List.getElem?_eq_some_iff.1 hr).1
  have h0 : W.ownsRow base 47 4 (runsV g l.length) l.length (flatW (bareX l k)) := by
    have h' := h
    unfold OwnX at h'
    rwa [bareX_len l (by omega)] at h'
  have h1 := (h0.stored (k * 4) (.int .i64 r.1.1)).1
  have h2 := (h1.stored (k * 4 + 1) (.string r.1.2)).1
  rw [← flatW_key (bareX l k) k noRaw r.1 (bareX_get l hk)] at h2
  rw [show ((r.1, noRaw.2) : Raw) = (r.1, 0, (none, 0, 0)) from rfl, bareX_set l hr] at h2
  unfold OwnX
  rw [bareX_len l (by omega)]
  exact h2
theorem bare_own {W : World} {base g : Nat} {l : List Rw} (h : OwnX W base (runsV g l.length) (bareX l l.length)) : OwnW W base (runsV g l.length) (bareR l) := by
  refine ⟨_, h, ?_, fun i x r hx hr => ?_⟩
  · rw [bareX_len l (Nat.le_refl _)]; unfold bareR; simp
  · have e : bareX l l.length = bareRaw l := by unfold bareX; simp
    rw [e] at hx
    unfold bareRaw at hx
    unfold bareR at hr
    rw [List.getElem?_map] at hx hr
    cases hl : l[i]? with
    | none => rw [hl] at hx; simp at hx
    | some y =>
      rw [hl] at hx hr
      simp at hx hr
      subst hx hr
      exact ⟨rfl, rfl, World.ownsRow_nil _ _ _ _⟩
theorem bare_lt {W : World} {base g n : Nat} {xs : List Raw} (h : OwnX W base (runsV g n) xs) : base ≤ g ∧ g < W.heap.size ∧ ∀ j, W.frozen? ⟨g, j, none⟩ = false := by
  rcases h.2 with ⟨e, _⟩ | ⟨g', cap, cur, e, hb, hg, _⟩
  · cases e
  · injection e with e1 e2 e3
    injection e1 with e1
    injection e1 with e1
    subst e1
    exact ⟨hb, (Array.getElem?_eq_some_iff.1 hg).1, fun j => by simp [World.frozen?, hg]⟩
theorem bare_cell {W : World} {base g k : Nat} {l : List Rw} (h : OwnX W base (runsV g l.length) (bareX l k)) (hk : k < l.length) : (∃ u, W.cell? ⟨g, k * 4, none⟩ = some u) ∧ ∃ u, W.cell? ⟨g, k * 4 + 1, none⟩ = some u := by
  have h0 : W.ownsRow base 47 4 (runsV g l.length) l.length (flatW (bareX l k)) := by
    have h' := h
    unfold OwnX at h'
    rwa [bareX_len l (by omega)] at h'
  obtain ⟨q0, q1, -, -⟩ := flatW_get _ _ _ (bareX_get l hk)
  exact ⟨⟨_, by rw [h0.cellAt _ (by omega)]; exact q0⟩, ⟨_, by rw [h0.cellAt _ (by omega)]; exact q1⟩⟩
end Go.Proofs.YtejgcflcckjlpaaGreatDoor
/- part.mayStand: the walk. -/
namespace Go.Proofs.YtejgcflcckjlpaaGreatDoor
open Go.RowKit
set_option linter.unusedVariables false
set_option maxRecDepth 100000

set_option maxHeartbeats 1600000 in
theorem mayStand_any (v : Value) (l : List Rw) (w : World) (h : WS w v l) (hl : l.length ≤ 100000) :
    Calls Tryz.prog 29 #[v] w (BoolR w (ordB l)) := by
  obtain ⟨va, vc, rfl, hsh⟩ := h
  obtain ⟨W1, hmk, hX0, hb1, hlt1⟩ := bare_start w w.heap.size l (Nat.le_refl _) hl
  obtain ⟨g, hg⟩ : ∃ g, g = w.heap.size := ⟨_, rfl⟩
  have HC := hidM (fun W (hX : OwnX W w.heap.size (runsV g l.length) (bareX l l.length)) => rcheck_any 1 0 (runsV g l.length) (bareR l) W (bare_own hX).ws (by unfold bareR; simp; exact hl) (fun r hr => by unfold bareR at hr; obtain ⟨y, _, rfl⟩ := List.mem_map.1 hr; simp) (bare_own hX).cap)
  rw [okRows_bare] at HC
  have HMK := hidM hmk
  clear hmk
  go_enter Tryz.func29, Tryz.ntmps29
  have hmk := HMK.out
  go_wp2
  have hX0 : OwnX W1 w.heap.size (runsV g l.length) (bareX l 0) := by rw [hg]; exact hX0
  rw [← hg]
  have HG := hidM hg
  clear hmk hg HMK
  go_loopw [11] (fun i wr => ∃ k : Nat, k ≤ l.length ∧ i = .int .i64 k ∧ OwnX wr w.heap.size (runsV g l.length) (bareX l k) ∧ Below w.heap.size w wr) (fun i _ => l.length - (intOf i).toNat)
  case atStart => exact ⟨0, by omega, rfl, hX0, hb1⟩
  case round =>
    clear hX0 hb1 hlt1
    rename World => w0
    obtain ⟨k, hk, rfl, hX, hbel⟩ := hrel
    have hsz := hbel.size
    by_cases hlt : k < l.length
    · obtain ⟨⟨⟨ya, yb⟩, yn, yl⟩, hy⟩ := getSome hlt
      rcases hsh with rfl | ⟨b, off, rfl, hb, hat⟩
      · simp at hlt
      obtain ⟨c0, c1, c2, s1, p1, c3, n1⟩ := (hat.below hbel hb) k _ hy
      simp only at c0 c1 c2 c3 n1
      have hst : ∀ (W : World) (o : Obj), Below W.heap.size W (W.alloc o) := fun W o => (Below.refl _ _).alloc (Nat.le_refl _) _
      obtain ⟨Wa, hWa⟩ : ∃ Wa : World, Wa = w0.alloc (.cells #[.int .i64 ya, .string yb, .int .i64 yn, .slice s1 yl.length p1] 47) := ⟨_, rfl⟩
      have hba : Below w0.heap.size w0 Wa := by rw [hWa]; exact hst _ _
      have B4 : Blk4 Wa w0.heap.size (.int .i64 ya) (.string yb) (.int .i64 yn) (.slice s1 yl.length p1) := by rw [hWa]; exact Blk4.new w0 _ _ _ _
      obtain ⟨a0, a1, a2, a3, -⟩ := B4.cells
      have hXa := hX.below hba
      obtain ⟨hg1, hg2, hfz⟩ := bare_lt hXa
      obtain ⟨⟨u0, hu0⟩, ⟨u1, hu1⟩⟩ := bare_cell hXa hlt
      have f0 := hfz (k * 4)
      have f1 := hfz (k * 4 + 1)
      rw [hWa] at hu0 hu1 f0 f1
      have hXs := bare_step hXa hy
      simp only at hXs
      rw [hWa] at hXs hba
      have HX := hidM hXs
      have HB := hidM (((hbel.trans (hba.mono hsz)).setCell (p := ⟨g, k * 4, none⟩) hg1 (.int .i64 ya)).setCell (p := ⟨g, k * 4 + 1, none⟩) hg1 (.string yb))
      clear hWa hbel hat n1 hba B4 hy hX hXa hXs hst hfz a0 a1 a2 a3
      go_wp2_with (first | fail)
      go_roundw
      case rel => exact ⟨k + 1, by omega, by go_num, HX.out, HB.out⟩
      case measure => simp [intOf]; omega
    · obtain rfl : k = l.length := by omega
      have HX := hidM (HC.out w0 hX)
      have HB := hidM hbel
      cases ho : ordB l with
      | true =>
        rw [ho] at HX
        go_wp2_with (go_at_call 20; refine HX.out.mono ?_; rintro e W2 ⟨rfl, hb2⟩)
        go_ret
        exact ⟨by rw [ho]; rfl, nxt HB.out hb2⟩
      | false =>
        rw [ho] at HX
        go_wp2_with (go_at_call 20; refine HX.out.mono ?_; rintro e W2 ⟨rfl, hb2⟩)
        go_ret
        exact ⟨by rw [ho]; rfl, nxt HB.out hb2⟩
end Go.Proofs.YtejgcflcckjlpaaGreatDoor
