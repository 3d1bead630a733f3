/- Texts laid together: WEq, WRGatF, WRFold. -/
import Derived.Test.YtclcgakfmcofaaaGreatDoorMW9
import Derived.Deep.RegionHeld3
set_option linter.unusedVariables false
set_option maxRecDepth 100000
set_option maxHeartbeats 4000000
namespace Go.Proofs.YtclcgakfmcofaaaGreatDoor
open Go.RowKit
structure iG (st : List Rw) (k : Ky) (p q : Nat) : Prop where
 pq : p ≤ q
 ql : q ≤ st.length
 lo : ∀ y ∈ st.take p, dk y.1 k = true
 hi : ∀ y ∈ st.drop q, dk y.1 k = false
theorem iG.start (st : List Rw) (k : Ky) : iG st k 0 st.length := ⟨Nat.zero_le _, Nat.le_refl _, by simp, by simp⟩
theorem rise_at {st : List Rw} (hr : aZ st) {i j : Nat} {x y : Rw} (hi : st[i]? = some x) (hj : st[j]? = some y) (h : i < j) : dk x.1 y.1 = true := by
 obtain ⟨h1, rfl⟩ := List.getElem?_eq_some_iff.1 hi
 obtain ⟨h2, rfl⟩ := List.getElem?_eq_some_iff.1 hj
 exact (List.pairwise_iff_getElem.1 hr) i j h1 h2 h
theorem iG.right {st : List Rw} {k : Ky} {p q m : Nat} {x : Rw} (h : iG st k p q) (hr : aZ st) (hx : st[m]? = some x) (hm : m < q) (hlt : dk x.1 k = true) : iG st k (m + 1) q := by
 refine ⟨hm, h.ql, fun y hy => ?_, h.hi⟩
 obtain ⟨i, hi⟩ := List.getElem?_of_mem hy
 have hil := (List.getElem?_eq_some_iff.1 hi).1
 rw [List.length_take] at hil
 rw [List.getElem?_take_of_lt (by omega)] at hi
 by_cases e : i = m
 ·subst e
  rw [hx] at hi
  injection hi with hi
  subst hi
  exact hlt
 ·exact cB (rise_at hr hi hx (by omega)) hlt
theorem iG.left {st : List Rw} {k : Ky} {p q m : Nat} {x : Rw} (h : iG st k p q) (hr : aZ st) (hx : st[m]? = some x) (hm : p ≤ m) (hq : m < q) (hlt : dk x.1 k = false) : iG st k p m := by
 refine ⟨hm, by have := h.ql; omega, h.lo, fun y hy => ?_⟩
 obtain ⟨i, hi⟩ := List.getElem?_of_mem hy
 rw [List.getElem?_drop] at hi
 by_cases e : i = 0
 ·subst e
  rw [Nat.add_zero, hx] at hi
  injection hi with hi
  subst hi
  exact hlt
 ·have h1 := rise_at hr hx hi (by omega)
  cases h2 : dk y.1 k
  ·rfl
  ·rw [cB h1 h2] at hlt; cases hlt
theorem cfK_neg {x y : Ky} : decide (cfK x y < 0) = dk x y := cfK_lt0 x y
theorem flatW_set (xs : List cW) (p : Nat) (x : cW) (n : Int) (s : Sl) (hx : xs[p]? = some x) : aw (xs.set p (x.1, n, s)) = ((aw xs).set (p * 4 + 2) (.int .i64 n)).set (p * 4 + 3) (dD s) := by
 induction xs generalizing p with
 | nil => simp at hx
 | cons a l ih =>
  cases p with
  | zero => simp at hx; subst hx; rfl
  | succ p =>
   have hx' : l[p]? = some x := by simpa using hx
   rw [List.set_cons_succ]
   show cj a ++ aw (l.set p (x.1, n, s)) = ((cj a ++ aw l).set ((p + 1) * 4 + 2) (.int .i64 n)).set ((p + 1) * 4 + 3) (dD s)
   rw [ih p hx']
   have e1 : (p + 1) * 4 + 2 = (cj a).length + (p * 4 + 2) := by simp [cj]; omega
   have e2 : (p + 1) * 4 + 3 = (cj a).length + (p * 4 + 3) := by simp [cj]; omega
   rw [e1, e2, List.set_append_right _ _ (by omega), List.set_append_right _ _ (by omega)]
   simp
theorem bh.set {w : World} {base g cap n0 : Nat} {xs : List cW} {p : Nat} {x : cW} (h : bh w base (.slice (some ⟨g, 0, none⟩) n0 cap) xs) (hx : xs[p]? = some x) (n : Int) (s : Sl) :
  bh ((w.setCell ⟨g, p * 4 + 2, none⟩ (.int .i64 n)).setCell ⟨g, p * 4 + 3, none⟩ (dD s)) base (.slice (some ⟨g, 0, none⟩) n0 cap) (xs.set p (x.1, n, s)) := by
 have hp := (List.getElem?_eq_some_iff.1 hx).1
 rcases h.2 with ⟨h1, _⟩ | ⟨g', cap', cur, h1, hg, hb, hn, hm, hs, ht⟩
 ·cases h1
 ·injection h1 with e1 e2 e3
  injection e1 with e1
  injection e1 with e1
  subst e1 e2 e3
  refine ⟨by rw [eA], .inr ⟨g, cap, (cur.setIfInBounds (p * 4 + 2) (.int .i64 n)).setIfInBounds (p * 4 + 3) (dD s), by rw [List.length_set], hg, ?_, by rw [List.length_set]; exact hn, hm, by simp [hs], ?_⟩⟩
  ·simp [World.setCell, Array.getElem?_modify, hb]
  ·rw [List.length_set, flatW_set xs p x n s hx, ← ht]
   simp only [Array.toList_setIfInBounds]
   rw [List.take_set, List.take_set]
theorem ck.set {w : World} {base : Nat} {xs : List cW} {l : List Rw} {p : Nat} {x : cW} {r : Rw} (h : ck w base xs l) (k : IsW w base x r) : ck w base (xs.set p x) (l.set p r) := by
 refine ⟨by simp [h.1], fun i y s h1 h2 => ?_⟩
 rw [List.getElem?_set] at h1 h2
 by_cases e : p = i
 ·subst e
  simp only [if_true] at h1 h2
  split at h1
  ·split at h2
   ·injection h1 with h1
    injection h2 with h2
    subst h1 h2
    exact k
   ·cases h2
  ·cases h1
 ·rw [if_neg e] at h1 h2
  exact h.2 i y s h1 h2
theorem ck.app {w : World} {base : Nat} {xs ys : List cW} {l m : List Rw} (h : ck w base xs l) (k : ck w base ys m) : ck w base (xs ++ ys) (l ++ m) := by
 refine ⟨by simp [h.1, k.1], fun i y s h1 h2 => ?_⟩
 by_cases hi : i < xs.length
 ·rw [List.getElem?_append_left hi] at h1
  rw [List.getElem?_append_left (h.1 ▸ hi)] at h2
  exact h.2 i y s h1 h2
 ·rw [List.getElem?_append_right (by omega)] at h1
  rw [List.getElem?_append_right (by have := h.1; omega), ← h.1] at h2
  exact k.2 _ y s h1 h2
theorem ck.take {w : World} {base : Nat} {xs : List cW} {l : List Rw} (h : ck w base xs l) (p : Nat) : ck w base (xs.take p) (l.take p) := by
 refine ⟨by simp [h.1], fun i y s h1 h2 => ?_⟩
 have hi := (List.getElem?_eq_some_iff.1 h1).1
 rw [List.length_take] at hi
 rw [List.getElem?_take_of_lt (by omega)] at h1 h2
 exact h.2 i y s h1 h2
theorem ck.drop {w : World} {base : Nat} {xs : List cW} {l : List Rw} (h : ck w base xs l) (p : Nat) : ck w base (xs.drop p) (l.drop p) := by
 refine ⟨by simp [h.1], fun i y s h1 h2 => ?_⟩
 rw [List.getElem?_drop] at h1 h2
 exact h.2 _ y s h1 h2
structure Fit (agg bound : Int) (l : List Rw) : Prop where
 ok : ∀ r ∈ l, OkC agg bound r.2
theorem gstep {J : Cl → Cl → Cl × Int} {l : List Rw} {k : Nat} {r : Rw} (hr : l[k]? = some r) : em J (l.take (k + 1)) = dP J (em J (l.take k)) r := by
 rw [List.take_add_one, hr]
 exact fz J _ _
theorem lz {W : World} {g o o' : Nat} {u : Value} (h : o' ≠ o) : (W.setCell ⟨g, o, none⟩ u).cell? ⟨g, o', none⟩ = W.cell? ⟨g, o', none⟩ := by
 simp only [World.cell?, World.setCell, Array.getElem?_modify]
 simp only [if_true]
 cases W.heap[g]? with
 | none => rfl
 | some x => cases x <;> simp [Ne.symm h]
theorem mR {W : World} {g o : Nat} {u : Value} {a : Addr} : (W.setCell ⟨g, o, none⟩ u).frozen? a = W.frozen? a := by simp
theorem bh.frozen {w : World} {base g cap n0 : Nat} {xs : List cW} (h : bh w base (.slice (some ⟨g, 0, none⟩) n0 cap) xs) (o : Nat) : w.frozen? ⟨g, o, none⟩ = false := by
 rcases h.2 with ⟨h1, _⟩ | ⟨g', cap', cur, h1, hg, hb, -⟩
 ·cases h1
 ·injection h1 with e1 e2 e3
  injection e1 with e1
  injection e1 with e1
  subst e1
  simp [World.frozen?, hb]
theorem rgather_any (agg bound : Int) (v : Value) (l : List Rw) (w : World) (h : WS w v l) (hf : Fit agg bound l) (hl : l.length ≤ 100000) :
  Calls Tryz.prog 98 #[.int .i64 agg, .int .i64 bound, v] w (RowsR w w.heap.size (fin (em (am agg bound.toNat) l))) := by
 obtain ⟨va, vc, rfl, hsh⟩ := h
 go_enter Tryz.func98, Tryz.ntmps98
 go_wp2
 go_loopw [8, 9, 10] (fun vo e i wr => ∃ k : Nat, k ≤ l.length ∧ i = .int .i64 k ∧ e = .int .i64 (em (am agg bound.toNat) (l.take k)).2 ∧ aQ wr w.heap.size vo (em (am agg bound.toNat) (l.take k)).1 ∧ Below w.heap.size w wr) (fun _ _ i _ => l.length - (intOf i).toNat)
 case atStart => exact ⟨0, by omega, rfl, rfl, aQ.nil _ _, Below.refl _ _⟩
 case round =>
  rename World => w0
  obtain ⟨k, hk, rfl, rfl, ho, hbel⟩ := hrel
  have hsz := hbel.size
  by_cases hlt : k < l.length
  ·obtain ⟨⟨⟨ya, yb⟩, yn, yl⟩, hy⟩ := ak hlt
   have hg := gstep (J := am agg bound.toNat) hy
   have hrise := fA (am agg bound.toNat) (l.take k)
   have hokS : ∀ x c, aC (em (am agg bound.toNat) (l.take k)).1 x = some c → OkC agg bound c := okC_gat _ fun r hr => hf.ok r (List.mem_of_mem_take hr)
   have hokY : OkC agg bound (yn, yl) := hf.ok _ (List.mem_of_getElem? hy)
   have hlen := len_gat (am agg bound.toNat) (l.take k)
   rw [List.length_take] at hlen
   rw [Nat.min_eq_left (by omega)] at hlen
   obtain ⟨⟨st, se⟩, hS⟩ : ∃ S, S = em (am agg bound.toNat) (l.take k) := ⟨_, rfl⟩
   rw [← hS] at hg hrise hokS hlen ho
   have hS' := ae hS
   simp only at hrise hokS hlen ho
   rcases hsh with rfl | ⟨b, off, rfl, hb, hat⟩
   ·simp at hlt
   obtain ⟨c0, c1, c2, s1, p1, c3, n1⟩ := (hat.below hbel hb) k _ hy
   simp only at c0 c1 c2 c3 n1
   obtain ⟨xs, hx, ha⟩ := ho
   rcases hx.2 with ⟨rfl, h0⟩ | ⟨g, cap, cur, evo, hg0, -⟩
   ·-- NIL
    have hx0 : xs = [] := List.length_eq_zero_iff.1 h0
    subst hx0
    have hst0 : st = [] := List.length_eq_zero_iff.1 ha.1.symm
    subst hst0
    have hbl : b < w0.heap.size := by omega
    have HY := ae (show ∀ W, Below w0.heap.size w0 W → W.cell? ⟨b, off + k * 4, none⟩ = some (.int .i64 ya) ∧ W.cell? ⟨b, off + k * 4 + 1, none⟩ = some (.string yb) ∧ W.cell? ⟨b, off + k * 4 + 2, none⟩ = some (.int .i64 yn) ∧ W.cell? ⟨b, off + k * 4 + 3, none⟩ = some (.slice s1 yl.length p1) from fun W hW =>
     ⟨(hW.cell (p := ⟨b, _, none⟩) hbl).trans c0, (hW.cell (p := ⟨b, _, none⟩) hbl).trans c1, (hW.cell (p := ⟨b, _, none⟩) hbl).trans c2, (hW.cell (p := ⟨b, _, none⟩) hbl).trans c3⟩)
    have HA := ae ha
    have HN := ae n1
    have HBEL := ae hbel
    have HG := ae hg
    have HXL : Hid (([] : List cW).length = ([] : List Rw).length) := rfl
    have hpu : Hid (bZ (am agg bound.toNat) (ya, yb) (yn, yl) [] = (([] : List Rw).take 0 ++ [((ya, yb), (yn, yl))] ++ ([] : List Rw).drop 0, 0)) := rfl
    clear hx ha n1 hbel hat hg hS hf c0 c1 c2 c3
    go_wp2
    go_loopw [11, 12] (fun lo hi w2 => lo = .int .i64 0 ∧ hi = .int .i64 0 ∧ w0 = w2) (fun lo hi _ => 0)
    case atStart => exact ⟨rfl, rfl, rfl⟩
    case round =>
     obtain ⟨rfl, rfl, rfl⟩ := hrel
     go_wp2
     go_quiet (fail)
     have HQ := ae (ec.below (w := w0) (wr := w0.drewN nq) ⟨nq, rfl⟩ w0.heap.size)
     generalize w0.drewN nq = Wq at HQ ⊢
     have XT : Hid (∀ W, Below w0.heap.size w0 W → XS W (.slice none 0 0) (([] : List cW).take 0)) := fun W _ => ⟨none, 0, rfl, .inl rfl⟩
     have XD : Hid (∀ W, Below w0.heap.size w0 W → XS W (.slice none 0 0) (([] : List cW).drop 0)) := fun W _ => ⟨none, 0, rfl, .inl rfl⟩
     have hst : ∀ (W : World) (o : Obj), Below W.heap.size W (W.alloc o) := fun W o => (Below.refl _ _).alloc (Nat.le_refl _) _
     obtain ⟨W1, hW1⟩ : ∃ W1 : World, W1 = Wq.alloc (.cells #[] 129) := ⟨_, rfl⟩
     have G1 : Below w0.heap.size w0 W1 := by rw [hW1]; exact HQ.out.alloc HQ.out.size _
     have X1 : bh W1 w0.heap.size (.slice (some ⟨Wq.heap.size, 0, none⟩) 0 0) [] := by rw [hW1]; exact World.ownsRow_made Wq #[] 0 HQ.out.size (Nat.zero_le _) (by simp)
     obtain ⟨v2, W2, t1, X2, t3, -⟩ := cd 61 X1 (XT.out W1 G1) (by have := HXL.out; first | (simp; omega) | simp) G1.size
     rw [List.nil_append] at X2
     have G2 : Below w0.heap.size w0 W2 := G1.grown t3 G1.size (aW X1)
     obtain ⟨z0, z1, z2, z3⟩ := HY.out W2 G2
     have HC := ae (ff (ya, yb) yn yl s1 p1 W2 (HN.out.below G2) (Nat.le_trans hokY.2.2 (by decide)))
     have HW1 := ae hW1.symm
     have R1 := ae t1
     have HT := ae (show ∀ (W3 : World) (s3 : Sl), Below W2.heap.size W2 W3 → ay W3 W2.heap.size (dD s3) yl → ∃ v4 W4 v5 W5, (Builtin.append_ #[61, 61] 61 #[v2, .slice (some ⟨W3.heap.size, 0, none⟩) 1 1]).run Tryz.prog (W3.alloc (.cells #[.int .i64 ya, .string yb, .int .i64 yn, dD s3] 129)) = .ok v4 W4 ∧ (Builtin.append_ #[61, 61] 61 #[v4, (.slice none 0 0)]).run Tryz.prog W4 = .ok v5 W5 ∧ aQ W5 w.heap.size v5 (([] : List Rw).take 0 ++ [((ya, yb), (yn, yl))] ++ ([] : List Rw).drop 0) ∧ Below w.heap.size w W5 from fun W3 s3 hb3 ho3 => by
      have X3 := (X2.below hb3).below (hst W3 (.cells #[.int .i64 ya, .string yb, .int .i64 yn, dD s3] 129))
      have G3 := ag (ag G2 hb3) (hst W3 (.cells #[.int .i64 ya, .string yb, .int .i64 yn, dD s3] 129))
      have O3 := ho3.below (hst W3 (.cells #[.int .i64 ya, .string yb, .int .i64 yn, dD s3] 129))
      obtain ⟨v4, W4, u1, X4, u3, -⟩ := cd 61 X3 (XS.new W3 ((ya, yb), yn, s3)) (by have := HXL.out; first | (simp; omega) | simp) G3.size
      have G4 : Below w0.heap.size w0 W4 := G3.grown u3 G3.size (aW X3)
      have O4 := O3.keep (cw X3 u3)
      obtain ⟨v5, W5, y1, X5, y3, -⟩ := cd 61 X4 (XD.out W4 G4) (by have := HXL.out; first | (simp; omega) | simp) G4.size
      have G5 : Below w0.heap.size w0 W5 := G4.grown y3 G4.size (aW X4)
      have O5 := O4.keep (cw X4 y3)
      have A5 : ck W5 w.heap.size [] [] := HA.out.keep (.below G5)
      have N5 : ck W5 w.heap.size [((ya, yb), yn, s3)] [((ya, yb), (yn, yl))] := (ck.nil W5 w.heap.size).snoc ⟨rfl, rfl, O5.lower (by have := G2.size; omega)⟩
      exact ⟨v4, W4, v5, W5, u1, y1, ⟨_, X5.lower hsz, ((A5.take 0).app N5).app (A5.drop 0)⟩, HBEL.out.trans (G5.mono hsz)⟩)
     have HE := ae (show (em (am agg bound.toNat) (l.take (k + 1))).1 = ([] : List Rw).take 0 ++ [((ya, yb), (yn, yl))] ++ ([] : List Rw).drop 0 ∧ (em (am agg bound.toNat) (l.take (k + 1))).2 = (em (am agg bound.toNat) (l.take k)).2 from by
      rw [HG.out, ← hS'.out]
      unfold dP
      simp only
      rw [hpu.out]
      exact ⟨rfl, rfl⟩)
     clear hst hW1 X1 X2 t1 t3 G1 G2
     go_wp2_with (at_builtin; rw [HW1.out]; refine wpList_append_run _ rfl _ _ _ rfl _ _ v2 W2 rfl rfl R1.out ?_)
     go_wp2_with (first | (go_at_call 145; refine HC.out.mono ?_; rintro e W3 ⟨⟨⟨s3a, s3b, s3c⟩, rfl, ho3⟩, hb3⟩; obtain ⟨v4, W4, v5, W5, u1, u2, hown5, hbel5⟩ := HT.out W3 (s3a, s3b, s3c) hb3 ho3; have U1 := ae u1; have U2 := ae u2; clear u1 u2) | (at_builtin; refine wpList_append_run _ rfl _ _ _ rfl _ _ v4 W4 rfl rfl U1.out ?_) | (at_builtin; refine wpList_append_run _ rfl _ _ _ rfl _ _ v5 W5 rfl rfl U2.out ?_))
     go_roundw
     case rel => exact ⟨k + 1, by omega, by go_num, by rw [HE.out.2], by rw [HE.out.1]; exact hown5, hbel5⟩
     case measure => simp [intOf]; omega
   ·rw [ha.1] at evo
    subst evo
    obtain ⟨hgl, -, hxcap, hxc⟩ := hx.cell
    have hxl : xs.length = st.length := ha.1
    rw [hxl] at hxcap
    have HXL := ae hxl
    have HAT := ae (show ∀ (m : Nat) (x : cW) W, Below w0.heap.size w0 W → xs[m]? = some x → W.cell? ⟨g, m * 4, none⟩ = some (.int .i64 x.1.1) ∧ W.cell? ⟨g, m * 4 + 1, none⟩ = some (.string x.1.2) ∧ W.cell? ⟨g, m * 4 + 2, none⟩ = some (.int .i64 x.2.1) ∧ W.cell? ⟨g, m * 4 + 3, none⟩ = some (dD x.2.2) from fun m x W hW hm => by
     obtain ⟨f0, f1, f2, f3⟩ := fD xs m x hm
     exact ⟨(hW.cell (p := ⟨g, _, none⟩) hgl).trans (hxc _ _ f0), (hW.cell (p := ⟨g, _, none⟩) hgl).trans (hxc _ _ f1), (hW.cell (p := ⟨g, _, none⟩) hgl).trans (hxc _ _ f2), (hW.cell (p := ⟨g, _, none⟩) hgl).trans (hxc _ _ f3)⟩)
    have hbl : b < w0.heap.size := by omega
    have HY := ae (show ∀ W, Below w0.heap.size w0 W → W.cell? ⟨b, off + k * 4, none⟩ = some (.int .i64 ya) ∧ W.cell? ⟨b, off + k * 4 + 1, none⟩ = some (.string yb) ∧ W.cell? ⟨b, off + k * 4 + 2, none⟩ = some (.int .i64 yn) ∧ W.cell? ⟨b, off + k * 4 + 3, none⟩ = some (.slice s1 yl.length p1) from fun W hW =>
     ⟨(hW.cell (p := ⟨b, _, none⟩) hbl).trans c0, (hW.cell (p := ⟨b, _, none⟩) hbl).trans c1, (hW.cell (p := ⟨b, _, none⟩) hbl).trans c2, (hW.cell (p := ⟨b, _, none⟩) hbl).trans c3⟩)
    have HA := ae ha
    have HX := ae hx
    have HN := ae n1
    have HBEL := ae hbel
    have HG := ae hg
    clear hxc ha hx n1 hbel hat hg hS hf cur c0 c1 c2 c3 hxl
    go_wp2
    go_loopw [11, 12] (fun lo hi w2 => ∃ p q : Nat, lo = .int .i64 p ∧ hi = .int .i64 q ∧ iG st (ya, yb) p q ∧ Below w0.heap.size w0 w2) (fun lo hi _ => (intOf hi - intOf lo).toNat)
    case atStart => exact ⟨0, st.length, rfl, by first | rfl | rw [hxl], iG.start _ _, Below.refl _ _⟩
    case round =>
     rename World => w2
     obtain ⟨p, q, rfl, rfl, hfo, hb2⟩ := hrel
     have hpq := hfo.pq
     have hql := hfo.ql
     by_cases hplt : p < q
     ·obtain ⟨m, hm⟩ : ∃ m : Nat, m = (p + q) / 2 := ⟨_, rfl⟩
      have hmp : p ≤ m := by omega
      have hmq : m < q := by omega
      obtain ⟨x, hx⟩ := ak (l := xs) (i := m) (by have := HXL.out; omega)
      obtain ⟨r, hr⟩ := ak (l := st) (i := m) (by omega)
      have ek := (HA.out.2 m x r hx hr).k
      obtain ⟨⟨xa, xb⟩, xn, xsl⟩ := x
      obtain ⟨a0, a1, -, -⟩ := HAT.out m _ w2 hb2 hx
      obtain ⟨y0, y1, -, -⟩ := HY.out w2 hb2
      simp only at a0 a1
      have hmid : ((p : Int) + (q : Int)).tdiv 2 = (m : Int) := by rw [Int.tdiv_eq_ediv_of_nonneg (by omega)]; omega
      have hmx : m < st.length := by omega
      have HC := ae (fun W => rcmp_any (xa, xb) (ya, yb) W)
      have HB2 := ae hb2
      have hneg := cfK_neg (x := (xa, xb)) (y := (ya, yb))
      obtain ⟨cf, hcf⟩ : ∃ cf : Int, cf = cfK (xa, xb) (ya, yb) := ⟨_, rfl⟩
      rw [← hcf] at HC hneg
      have HS := ae (show ∀ W, Below w0.heap.size w0 W → W.cell? ⟨g, m * 4, none⟩ = some (.int .i64 xa) ∧ W.cell? ⟨g, m * 4 + 1, none⟩ = some (.string xb) ∧ W.cell? ⟨b, off + k * 4, none⟩ = some (.int .i64 ya) ∧ W.cell? ⟨b, off + k * 4 + 1, none⟩ = some (.string yb) ∧ Below w0.heap.size w0 W from fun W hW =>
       ⟨(HAT.out m _ W hW hx).1, (HAT.out m _ W hW hx).2.1, (HY.out W hW).1, (HY.out W hW).2.1, hW⟩)
      have HNEG := ae hneg
      have EK := ae ek
      clear hcf hb2 hm hneg ek
      go_wp2
      go_region_held3 (fun W => W.cell? ⟨g, m * 4, none⟩ = some (.int .i64 xa) ∧ W.cell? ⟨g, m * 4 + 1, none⟩ = some (.string xb) ∧ W.cell? ⟨b, off + k * 4, none⟩ = some (.int .i64 ya) ∧ W.cell? ⟨b, off + k * 4 + 1, none⟩ = some (.string yb) ∧ Below w0.heap.size w0 W)
       (first | exact HS.out _ HB2.out.drew | exact HS.out _ (ag HB2.out.drew hb3))
       (first | (go_at_call 117; refine (HC.out _).mono ?_; rintro e W3 ⟨rfl, hb3⟩))
      have hb3' := ae (ag HB2.out.drew hb3)
      have hneg := HNEG.out
      have ek := EK.out
      cases hlk : dk (xa, xb) (ya, yb) with
      | true =>
       rw [hlk] at hneg
       have hneg' : cf < 0 := by simpa using hneg
       have HF := ae (hfo.right hrise hr hmq (by rw [← ek]; exact hlk))
       clear hneg ek
       go_wp2
       go_roundw
       case rel => exact ⟨m + 1, q, by go_num, rfl, HF.out, hb3'.out⟩
       case measure => simp [intOf]; omega
      | false =>
       rw [hlk] at hneg
       have hneg' : ¬ cf < 0 := by simpa using hneg
       have HF := ae (hfo.left hrise hr hmp hmq (by rw [← ek]; exact hlk))
       clear hneg ek
       go_wp2
       go_roundw
       case rel => exact ⟨p, m, rfl, rfl, HF.out, hb3'.out⟩
       case measure => simp [intOf]; omega
     ·have epq : q = p := by omega
      subst epq
      have hplt' : ¬ ((q : Int) < (q : Int)) := by omega
      obtain ⟨y0, y1, y2, y3⟩ := HY.out w2 hb2
      have hb2' := ae hb2
      obtain ⟨pa1, pa2⟩ := putR_at (J := am agg bound.toNat) (c := (yn, yl)) hrise hql hfo.lo hfo.hi
      by_cases hd : ∃ d, st[q]? = some ((ya, yb), d)
      ·obtain ⟨⟨dn, dl⟩, hd⟩ := hd
       have hpu := ae (pa1 _ hd)
       obtain ⟨x, hx⟩ := ak (l := xs) (i := q) (by have := HXL.out; have := (List.getElem?_eq_some_iff.1 hd).1; omega)
       obtain ⟨ek, en, es⟩ := HA.out.2 q x _ hx hd
       obtain ⟨xk, xn, xs1, xs2, xs3⟩ := x
       simp only at ek en es
       subst ek en
       obtain ⟨sa, sc, hs'⟩ := es.shape
       injection hs' with e1 e2 e3
       subst e1 e2 e3
       have hqx : q < st.length := (List.getElem?_eq_some_iff.1 hd).1
       obtain ⟨a0, a1, a2, a3⟩ := HAT.out q _ w2 hb2 hx
       simp only at a0 a1 a2 a3
       have he := fun W => eqK ya ya yb yb W
       rw [eqB_self] at he
       have hgd := fun op p q xs ys W => guardK op p q xs ys W
       have hokD := ae (hokS _ _ (dc hrise (List.mem_of_getElem? hd)))
       clear hb2 pa1 pa2 hfo
       go_wp2
       go_quiet (fail)
       go_wp2
       have HQ := ae (show Below w0.heap.size w0 (w2.drewN nq) from ⟨hb2'.out.os, hb2'.out.tape, hb2'.out.output, hb2'.out.size, hb2'.out.block⟩)
       generalize w2.drewN nq = Wq at HQ ⊢
       have KJ := ae (show ∀ W : World, Below w0.heap.size w0 W → W.cell? ⟨g, q * 4 + 2, none⟩ = some (.int .i64 xn) ∧ W.cell? ⟨g, q * 4 + 3, none⟩ = some (.slice xs1 dl.length xs3) ∧ W.cell? ⟨b, off + k * 4 + 2, none⟩ = some (.int .i64 yn) ∧ W.cell? ⟨b, off + k * 4 + 3, none⟩ = some (.slice s1 yl.length p1) ∧ Below w0.heap.size w0 W from fun W hW =>
        ⟨(HAT.out q _ W hW hx).2.2.1, (HAT.out q _ W hW hx).2.2.2, (HY.out W hW).2.2.1, (HY.out W hW).2.2.2, hW⟩)
       have JN := ae (fun W (hW : Below w0.heap.size w0 W) => rjoin_any agg bound _ _ (xn, dl) (yn, yl) W ⟨xs1, xs3, rfl, (ay.ns es).below hW⟩ ⟨s1, p1, rfl, HN.out.below hW⟩ hokD.out.2.1 hokY.2.1 (by have := hokD.out.2.2; show dl.length ≤ 50000; have h : dl.length ≤ 32 := this; omega) (by have h : yl.length ≤ 32 := hokY.2.2; show yl.length ≤ 50000; omega) hokD.out.1 hokY.1)
       rw [jK hokD.out.1 hokY.1] at JN
       obtain ⟨⟨⟨r1, r2⟩, re⟩, hre⟩ : ∃ r : Cl × Int, r = am agg bound.toNat (xn, dl) (yn, yl) := ⟨_, rfl⟩
       rw [← hre] at JN
       simp only at JN
       have HJ : Hid (am agg bound.toNat (xn, dl) (yn, yl) = ((r1, r2), re)) := hre.symm
       have B8 := ae (show aH (Wq.alloc (.cells #[.int .i64 0, .slice none 0 0] 127)).drew Wq.heap.size 0 (.slice none 0 0) from aH.new Wq 0 (.slice none 0 0))
       clear hre he a0 a1 a2 a3 y0 y1 y2 y3
       go_region_held3 (fun W => W.cell? ⟨g, q * 4 + 2, none⟩ = some (.int .i64 xn) ∧ W.cell? ⟨g, q * 4 + 3, none⟩ = some (.slice xs1 dl.length xs3) ∧ W.cell? ⟨b, off + k * 4 + 2, none⟩ = some (.int .i64 yn) ∧ W.cell? ⟨b, off + k * 4 + 3, none⟩ = some (.slice s1 yl.length p1) ∧ Below w0.heap.size w0 W)
        (first
         | exact KJ.out _ HQ.out.drew
         | exact KJ.out _ (HQ.out.alloc HQ.out.size _).drew
         | exact KJ.out _ (ag (‹_ ∧ _ ∧ _ ∧ _ ∧ Below w0.heap.size w0 _›).2.2.2.2 hb5)
         | exact KJ.out _ ((‹_ ∧ _ ∧ _ ∧ _ ∧ Below w0.heap.size w0 _›).2.2.2.2.alloc (‹_ ∧ _ ∧ _ ∧ _ ∧ Below w0.heap.size w0 _›).2.2.2.2.size _)
         | exact KJ.out _ ((ag HQ.out.drew hb5).alloc (ag HQ.out.drew hb5).size _)
         | exact KJ.out _ (bN (‹_ ∧ _ ∧ _ ∧ _ ∧ Below w0.heap.size w0 _›).2.2.2.2 HQ.out.size _ _))
        (first | (go_at_call 144; refine (JN.out _ (‹_ ∧ _ ∧ _ ∧ _ ∧ Below w0.heap.size w0 _›).2.2.2.2).mono ?_; rintro e W5 ⟨⟨v5, rfl, a5, c5, rfl, ho5⟩, hb5⟩; first | (refine with_blk B8.out hb5 r1 ?_; rintro ⟨c80, c81, f80, f81, c81', f81'⟩) | skip))
       ·have F0 := ag (HQ.out.drew) hb5
        have F1 : Below w0.heap.size w0 (W5.alloc (.cells #[.int .i64 r1, .slice a5 r2.length c5] 127)) := F0.alloc F0.size _
        have F2 := aH.new W5 r1 (.slice a5 r2.length c5)
        have F3 : ay (W5.alloc (.cells #[.int .i64 r1, .slice a5 r2.length c5] 127)) w.heap.size (.slice a5 r2.length c5) r2 := (ho5.below ((Below.refl _ _).alloc (Nat.le_refl _) _)).lower (by have := HQ.out.size; show w.heap.size ≤ Wq.heap.size; omega)
        generalize W5.alloc (.cells #[.int .i64 r1, .slice a5 r2.length c5] 127) = W6 at F1 F2 F3 ⊢
        obtain ⟨q0, q1, -, -⟩ := F2.cells
        have hxW : bh W6 w.heap.size (.slice (some ⟨g, 0, none⟩) st.length cap) xs := HX.out.below F1
        have haW : ck W6 w.heap.size xs st := HA.out.keep (.below F1)
        have hbW : Below w.heap.size w W6 := HBEL.out.trans (F1.mono hsz)
        by_cases hre : re = 0
        ·subst hre
         obtain ⟨h1, -, h3, h4⟩ := HAT.out q _ W6 F1 hx
         have hfr := hxW.frozen
         have h3' : (W6.setCell ⟨g, q * 4 + 2, none⟩ (.int .i64 r1)).cell? ⟨g, q * 4 + 3, none⟩ = some (.slice xs1 dl.length xs3) := by rw [lz (by omega)]; exact h4
         have hfr' : (W6.setCell ⟨g, q * 4 + 2, none⟩ (.int .i64 r1)).frozen? ⟨g, q * 4 + 3, none⟩ = false := by rw [mR]; exact hfr _
         have f2 := hfr (q * 4 + 2)
         simp only at h3 h4
         have HE := ae (show (em (am agg bound.toNat) (l.take (k + 1))).1 = st.set q ((ya, yb), (r1, r2)) ∧ (em (am agg bound.toNat) (l.take (k + 1))).2 = (em (am agg bound.toNat) (l.take k)).2 from by
          rw [HG.out, ← hS'.out]
          unfold dP
          simp only
          rw [hpu.out, HJ.out]
          exact ⟨rfl, rfl⟩)
         have hg3 : ∀ u u', W6.grownBy ((W6.setCell ⟨g, q * 4 + 2, none⟩ u).setCell ⟨g, q * 4 + 3, none⟩ u') (some g) := fun u u' => (aq W6 g (q * 4 + 2) u).trans (aq _ g (q * 4 + 3) u')
         have FIN := ae (show aQ ((W6.setCell ⟨g, q * 4 + 2, none⟩ (.int .i64 r1)).setCell ⟨g, q * 4 + 3, none⟩ (.slice a5 r2.length c5)) w.heap.size (.slice (some ⟨g, 0, none⟩) st.length cap) (em (am agg bound.toNat) (l.take (k + 1))).1 ∧ Below w.heap.size w ((W6.setCell ⟨g, q * 4 + 2, none⟩ (.int .i64 r1)).setCell ⟨g, q * 4 + 3, none⟩ (.slice a5 r2.length c5)) from by
          rw [HE.out.1]
          have hk := cw hxW (hg3 (.int .i64 r1) (.slice a5 r2.length c5))
          refine ⟨⟨_, hxW.set hx r1 (a5, r2.length, c5), (haW.keep hk).set ⟨rfl, rfl, F3.keep hk⟩⟩, (hbW.setCell (p := ⟨g, _, none⟩) (aW hxW g rfl) _).setCell (p := ⟨g, _, none⟩) (aW hxW g rfl) _⟩)
         clear hxW haW hbW F1 F2 F3 hg3 hfr h1
         go_wp2
         go_roundw
         case rel => exact ⟨k + 1, by omega, by go_num, by rw [HE.out.2], FIN.out⟩
         case measure => simp [intOf]; omega
        ·have hre' : (re != 0) = true := by simp [hre]
         have HE := ae (show (em (am agg bound.toNat) (l.take (k + 1))).1 = st ∧ (em (am agg bound.toNat) (l.take (k + 1))).2 = re from by
          rw [HG.out]
          unfold dP
          simp only
          rw [hpu.out, HJ.out]
          simp only [if_neg hre]
          exact ⟨trivial, trivial⟩)
         have FIN := ae (show aQ W6 w.heap.size (.slice (some ⟨g, 0, none⟩) st.length cap) (em (am agg bound.toNat) (l.take (k + 1))).1 ∧ Below w.heap.size w W6 from by
          rw [HE.out.1]
          exact ⟨⟨_, hxW, haW⟩, hbW⟩)
         clear hxW haW hbW F1 F2 F3
         go_wp2
         go_roundw
         case rel => exact ⟨k + 1, by omega, by go_num, by rw [HE.out.2], FIN.out⟩
         case measure => simp [intOf]; omega
       ·have F0 : Below w0.heap.size w0 W5 := ag ((HQ.out.alloc HQ.out.size (.cells #[.int .i64 0, .slice none 0 0] 127)).drew) hb5
        have F1 : Below w0.heap.size w0 ((W5.setCell ⟨Wq.heap.size, 0, none⟩ (.int .i64 r1)).setCell ⟨Wq.heap.size, 1, none⟩ (.slice a5 r2.length c5)) := bN F0 HQ.out.size _ _
        have F2 := (B8.out.below hb5).set (m := r1) (u := .slice a5 r2.length c5)
        have F3 : ay ((W5.setCell ⟨Wq.heap.size, 0, none⟩ (.int .i64 r1)).setCell ⟨Wq.heap.size, 1, none⟩ (.slice a5 r2.length c5)) w.heap.size (.slice a5 r2.length c5) r2 := (fW ho5 (by simp) _ _).lower (by have := HQ.out.size; simp; omega)
        generalize (W5.setCell ⟨Wq.heap.size, 0, none⟩ (.int .i64 r1)).setCell ⟨Wq.heap.size, 1, none⟩ (.slice a5 r2.length c5) = W6 at F1 F2 F3 ⊢
        obtain ⟨q0, q1, -, -⟩ := F2.cells
        have hxW : bh W6 w.heap.size (.slice (some ⟨g, 0, none⟩) st.length cap) xs := HX.out.below F1
        have haW : ck W6 w.heap.size xs st := HA.out.keep (.below F1)
        have hbW : Below w.heap.size w W6 := HBEL.out.trans (F1.mono hsz)
        by_cases hre : re = 0
        ·subst hre
         obtain ⟨h1, -, h3, h4⟩ := HAT.out q _ W6 F1 hx
         have hfr := hxW.frozen
         have h3' : (W6.setCell ⟨g, q * 4 + 2, none⟩ (.int .i64 r1)).cell? ⟨g, q * 4 + 3, none⟩ = some (.slice xs1 dl.length xs3) := by rw [lz (by omega)]; exact h4
         have hfr' : (W6.setCell ⟨g, q * 4 + 2, none⟩ (.int .i64 r1)).frozen? ⟨g, q * 4 + 3, none⟩ = false := by rw [mR]; exact hfr _
         have f2 := hfr (q * 4 + 2)
         simp only at h3 h4
         have HE := ae (show (em (am agg bound.toNat) (l.take (k + 1))).1 = st.set q ((ya, yb), (r1, r2)) ∧ (em (am agg bound.toNat) (l.take (k + 1))).2 = (em (am agg bound.toNat) (l.take k)).2 from by
          rw [HG.out, ← hS'.out]
          unfold dP
          simp only
          rw [hpu.out, HJ.out]
          exact ⟨rfl, rfl⟩)
         have hg3 : ∀ u u', W6.grownBy ((W6.setCell ⟨g, q * 4 + 2, none⟩ u).setCell ⟨g, q * 4 + 3, none⟩ u') (some g) := fun u u' => (aq W6 g (q * 4 + 2) u).trans (aq _ g (q * 4 + 3) u')
         have FIN := ae (show aQ ((W6.setCell ⟨g, q * 4 + 2, none⟩ (.int .i64 r1)).setCell ⟨g, q * 4 + 3, none⟩ (.slice a5 r2.length c5)) w.heap.size (.slice (some ⟨g, 0, none⟩) st.length cap) (em (am agg bound.toNat) (l.take (k + 1))).1 ∧ Below w.heap.size w ((W6.setCell ⟨g, q * 4 + 2, none⟩ (.int .i64 r1)).setCell ⟨g, q * 4 + 3, none⟩ (.slice a5 r2.length c5)) from by
          rw [HE.out.1]
          have hk := cw hxW (hg3 (.int .i64 r1) (.slice a5 r2.length c5))
          refine ⟨⟨_, hxW.set hx r1 (a5, r2.length, c5), (haW.keep hk).set ⟨rfl, rfl, F3.keep hk⟩⟩, (hbW.setCell (p := ⟨g, _, none⟩) (aW hxW g rfl) _).setCell (p := ⟨g, _, none⟩) (aW hxW g rfl) _⟩)
         clear hxW haW hbW F1 F2 F3 hg3 hfr h1
         go_wp2
         go_roundw
         case rel => exact ⟨k + 1, by omega, by go_num, by rw [HE.out.2], FIN.out⟩
         case measure => simp [intOf]; omega
        ·have hre' : (re != 0) = true := by simp [hre]
         have HE := ae (show (em (am agg bound.toNat) (l.take (k + 1))).1 = st ∧ (em (am agg bound.toNat) (l.take (k + 1))).2 = re from by
          rw [HG.out]
          unfold dP
          simp only
          rw [hpu.out, HJ.out]
          simp only [if_neg hre]
          exact ⟨trivial, trivial⟩)
         have FIN := ae (show aQ W6 w.heap.size (.slice (some ⟨g, 0, none⟩) st.length cap) (em (am agg bound.toNat) (l.take (k + 1))).1 ∧ Below w.heap.size w W6 from by
          rw [HE.out.1]
          exact ⟨⟨_, hxW, haW⟩, hbW⟩)
         clear hxW haW hbW F1 F2 F3
         go_wp2
         go_roundw
         case rel => exact ⟨k + 1, by omega, by go_num, by rw [HE.out.2], FIN.out⟩
         case measure => simp [intOf]; omega
      ·-- NEW
       have hpu := ae (pa2 (fun d hd' => hd ⟨d, hd'⟩))
       have XT := ae (fun W (hW : Below w0.heap.size w0 W) => XS.take (HX.out.below hW) q (by have := HXL.out; omega) cap)
       have XD := ae (fun W (hW : Below w0.heap.size w0 W) => XS.drop (HX.out.below hW) q (by have := HXL.out; omega) (cap - q))
       rw [HXL.out] at XD
       by_cases hqx : q < st.length
       ·obtain ⟨r, hr⟩ := ak (l := st) (i := q) hqx
        obtain ⟨x, hx⟩ := ak (l := xs) (i := q) (by have := HXL.out; omega)
        have ek := (HA.out.2 q x r hx hr).k
        obtain ⟨⟨xa, xb⟩, xn, xsl⟩ := x
        obtain ⟨a0, a1, -, -⟩ := HAT.out q _ w2 hb2 hx
        simp only at a0 a1 ek
        have hne : eqB (xa, xb) (ya, yb) = false := by
         unfold eqB
         exact decide_eq_false fun e => hd ⟨r.2, by rw [hr, ← e, ek]⟩
        have he := fun W => eqK xa ya xb yb W
        rw [hne] at he
        have hgd := fun op p q xs ys W => guardK op p q xs ys W
        clear hb2 pa1 pa2 hfo hd ek hne
        go_wp2
        go_quiet (fail)
        have HQ := ae (show Below w0.heap.size w0 (w2.drewN nq) from ⟨hb2'.out.os, hb2'.out.tape, hb2'.out.output, hb2'.out.size, hb2'.out.block⟩)
        generalize w2.drewN nq = Wq at HQ ⊢
        clear he a0 a1 y0 y1 y2 y3 hx hr
        have hst : ∀ (W : World) (o : Obj), Below W.heap.size W (W.alloc o) := fun W o => (Below.refl _ _).alloc (Nat.le_refl _) _
        obtain ⟨W1, hW1⟩ : ∃ W1 : World, W1 = Wq.alloc (.cells #[] 129) := ⟨_, rfl⟩
        have G1 : Below w0.heap.size w0 W1 := by rw [hW1]; exact HQ.out.alloc HQ.out.size _
        have X1 : bh W1 w0.heap.size (.slice (some ⟨Wq.heap.size, 0, none⟩) 0 0) [] := by rw [hW1]; exact World.ownsRow_made Wq #[] 0 HQ.out.size (Nat.zero_le _) (by simp)
        obtain ⟨v2, W2, t1, X2, t3, -⟩ := cd 61 X1 (XT.out W1 G1) (by have := HXL.out; first | (simp; omega) | simp) G1.size
        rw [List.nil_append] at X2
        have G2 : Below w0.heap.size w0 W2 := G1.grown t3 G1.size (aW X1)
        obtain ⟨z0, z1, z2, z3⟩ := HY.out W2 G2
        have HC := ae (ff (ya, yb) yn yl s1 p1 W2 (HN.out.below G2) (Nat.le_trans hokY.2.2 (by decide)))
        have HW1 := ae hW1.symm
        have R1 := ae t1
        have HT := ae (show ∀ (W3 : World) (s3 : Sl), Below W2.heap.size W2 W3 → ay W3 W2.heap.size (dD s3) yl → ∃ v4 W4 v5 W5, (Builtin.append_ #[61, 61] 61 #[v2, .slice (some ⟨W3.heap.size, 0, none⟩) 1 1]).run Tryz.prog (W3.alloc (.cells #[.int .i64 ya, .string yb, .int .i64 yn, dD s3] 129)) = .ok v4 W4 ∧ (Builtin.append_ #[61, 61] 61 #[v4, (.slice (some ⟨g, q * 4, none⟩) (st.length - q) (cap - q))]).run Tryz.prog W4 = .ok v5 W5 ∧ aQ W5 w.heap.size v5 (st.take q ++ [((ya, yb), (yn, yl))] ++ st.drop q) ∧ Below w.heap.size w W5 from fun W3 s3 hb3 ho3 => by
         have X3 := (X2.below hb3).below (hst W3 (.cells #[.int .i64 ya, .string yb, .int .i64 yn, dD s3] 129))
         have G3 := ag (ag G2 hb3) (hst W3 (.cells #[.int .i64 ya, .string yb, .int .i64 yn, dD s3] 129))
         have O3 := ho3.below (hst W3 (.cells #[.int .i64 ya, .string yb, .int .i64 yn, dD s3] 129))
         obtain ⟨v4, W4, u1, X4, u3, -⟩ := cd 61 X3 (XS.new W3 ((ya, yb), yn, s3)) (by have := HXL.out; first | (simp; omega) | simp) G3.size
         have G4 : Below w0.heap.size w0 W4 := G3.grown u3 G3.size (aW X3)
         have O4 := O3.keep (cw X3 u3)
         obtain ⟨v5, W5, y1, X5, y3, -⟩ := cd 61 X4 (XD.out W4 G4) (by have := HXL.out; first | (simp; omega) | simp) G4.size
         have G5 : Below w0.heap.size w0 W5 := G4.grown y3 G4.size (aW X4)
         have O5 := O4.keep (cw X4 y3)
         have A5 : ck W5 w.heap.size xs st := HA.out.keep (.below G5)
         have N5 : ck W5 w.heap.size [((ya, yb), yn, s3)] [((ya, yb), (yn, yl))] := (ck.nil W5 w.heap.size).snoc ⟨rfl, rfl, O5.lower (by have := G2.size; omega)⟩
         exact ⟨v4, W4, v5, W5, u1, y1, ⟨_, X5.lower hsz, ((A5.take q).app N5).app (A5.drop q)⟩, HBEL.out.trans (G5.mono hsz)⟩)
        have HE := ae (show (em (am agg bound.toNat) (l.take (k + 1))).1 = st.take q ++ [((ya, yb), (yn, yl))] ++ st.drop q ∧ (em (am agg bound.toNat) (l.take (k + 1))).2 = (em (am agg bound.toNat) (l.take k)).2 from by
         rw [HG.out, ← hS'.out]
         unfold dP
         simp only
         rw [hpu.out]
         exact ⟨rfl, rfl⟩)
        clear hst hW1 X1 X2 t1 t3 G1 G2
        go_wp2_with (at_builtin; rw [HW1.out]; refine wpList_append_run _ rfl _ _ _ rfl _ _ v2 W2 rfl rfl R1.out ?_)
        go_wp2_with (first | (go_at_call 145; refine HC.out.mono ?_; rintro e W3 ⟨⟨⟨s3a, s3b, s3c⟩, rfl, ho3⟩, hb3⟩; obtain ⟨v4, W4, v5, W5, u1, u2, hown5, hbel5⟩ := HT.out W3 (s3a, s3b, s3c) hb3 ho3; have U1 := ae u1; have U2 := ae u2; clear u1 u2) | (at_builtin; refine wpList_append_run _ rfl _ _ _ rfl _ _ v4 W4 rfl rfl U1.out ?_) | (at_builtin; refine wpList_append_run _ rfl _ _ _ rfl _ _ v5 W5 rfl rfl U2.out ?_))
        go_roundw
        case rel => exact ⟨k + 1, by omega, by go_num, by rw [HE.out.2], by rw [HE.out.1]; exact hown5, hbel5⟩
        case measure => simp [intOf]; omega
       ·have hqx' : ¬ ((q : Int) < (st.length : Int)) := by omega
        clear XD
        have XD := ae (show ∀ W : World, Below w0.heap.size w0 W → XS W (.slice (if cap = q then some ⟨g, 0, none⟩ else some ⟨g, q * 4, none⟩) (st.length - q) (cap - q)) (xs.drop q) from fun W _ => by
         have h0 : xs.drop q = [] := List.drop_eq_nil_of_le (by have := HXL.out; omega)
         exact ⟨_, _, by rw [h0, show st.length - q = 0 by omega]; rfl, .inl h0⟩)
        clear hb2 pa1 pa2 hfo hd
        go_wp2
        go_quiet (fail)
        have HQ := ae (show Below w0.heap.size w0 (w2.drewN nq) from ⟨hb2'.out.os, hb2'.out.tape, hb2'.out.output, hb2'.out.size, hb2'.out.block⟩)
        generalize w2.drewN nq = Wq at HQ ⊢
        clear y0 y1 y2 y3 hqx hqx'
        have hst : ∀ (W : World) (o : Obj), Below W.heap.size W (W.alloc o) := fun W o => (Below.refl _ _).alloc (Nat.le_refl _) _
        obtain ⟨W1, hW1⟩ : ∃ W1 : World, W1 = Wq.alloc (.cells #[] 129) := ⟨_, rfl⟩
        have G1 : Below w0.heap.size w0 W1 := by rw [hW1]; exact HQ.out.alloc HQ.out.size _
        have X1 : bh W1 w0.heap.size (.slice (some ⟨Wq.heap.size, 0, none⟩) 0 0) [] := by rw [hW1]; exact World.ownsRow_made Wq #[] 0 HQ.out.size (Nat.zero_le _) (by simp)
        obtain ⟨v2, W2, t1, X2, t3, -⟩ := cd 61 X1 (XT.out W1 G1) (by have := HXL.out; first | (simp; omega) | simp) G1.size
        rw [List.nil_append] at X2
        have G2 : Below w0.heap.size w0 W2 := G1.grown t3 G1.size (aW X1)
        obtain ⟨z0, z1, z2, z3⟩ := HY.out W2 G2
        have HC := ae (ff (ya, yb) yn yl s1 p1 W2 (HN.out.below G2) (Nat.le_trans hokY.2.2 (by decide)))
        have HW1 := ae hW1.symm
        have R1 := ae t1
        have HT := ae (show ∀ (W3 : World) (s3 : Sl), Below W2.heap.size W2 W3 → ay W3 W2.heap.size (dD s3) yl → ∃ v4 W4 v5 W5, (Builtin.append_ #[61, 61] 61 #[v2, .slice (some ⟨W3.heap.size, 0, none⟩) 1 1]).run Tryz.prog (W3.alloc (.cells #[.int .i64 ya, .string yb, .int .i64 yn, dD s3] 129)) = .ok v4 W4 ∧ (Builtin.append_ #[61, 61] 61 #[v4, (.slice (if cap = q then some ⟨g, 0, none⟩ else some ⟨g, q * 4, none⟩) (st.length - q) (cap - q))]).run Tryz.prog W4 = .ok v5 W5 ∧ aQ W5 w.heap.size v5 (st.take q ++ [((ya, yb), (yn, yl))] ++ st.drop q) ∧ Below w.heap.size w W5 from fun W3 s3 hb3 ho3 => by
         have X3 := (X2.below hb3).below (hst W3 (.cells #[.int .i64 ya, .string yb, .int .i64 yn, dD s3] 129))
         have G3 := ag (ag G2 hb3) (hst W3 (.cells #[.int .i64 ya, .string yb, .int .i64 yn, dD s3] 129))
         have O3 := ho3.below (hst W3 (.cells #[.int .i64 ya, .string yb, .int .i64 yn, dD s3] 129))
         obtain ⟨v4, W4, u1, X4, u3, -⟩ := cd 61 X3 (XS.new W3 ((ya, yb), yn, s3)) (by have := HXL.out; first | (simp; omega) | simp) G3.size
         have G4 : Below w0.heap.size w0 W4 := G3.grown u3 G3.size (aW X3)
         have O4 := O3.keep (cw X3 u3)
         obtain ⟨v5, W5, y1, X5, y3, -⟩ := cd 61 X4 (XD.out W4 G4) (by have := HXL.out; first | (simp; omega) | simp) G4.size
         have G5 : Below w0.heap.size w0 W5 := G4.grown y3 G4.size (aW X4)
         have O5 := O4.keep (cw X4 y3)
         have A5 : ck W5 w.heap.size xs st := HA.out.keep (.below G5)
         have N5 : ck W5 w.heap.size [((ya, yb), yn, s3)] [((ya, yb), (yn, yl))] := (ck.nil W5 w.heap.size).snoc ⟨rfl, rfl, O5.lower (by have := G2.size; omega)⟩
         exact ⟨v4, W4, v5, W5, u1, y1, ⟨_, X5.lower hsz, ((A5.take q).app N5).app (A5.drop q)⟩, HBEL.out.trans (G5.mono hsz)⟩)
        have HE := ae (show (em (am agg bound.toNat) (l.take (k + 1))).1 = st.take q ++ [((ya, yb), (yn, yl))] ++ st.drop q ∧ (em (am agg bound.toNat) (l.take (k + 1))).2 = (em (am agg bound.toNat) (l.take k)).2 from by
         rw [HG.out, ← hS'.out]
         unfold dP
         simp only
         rw [hpu.out]
         exact ⟨rfl, rfl⟩)
        clear hst hW1 X1 X2 t1 t3 G1 G2
        go_wp2_with (at_builtin; rw [HW1.out]; refine wpList_append_run _ rfl _ _ _ rfl _ _ v2 W2 rfl rfl R1.out ?_)
        go_wp2_with (first | (go_at_call 145; refine HC.out.mono ?_; rintro e W3 ⟨⟨⟨s3a, s3b, s3c⟩, rfl, ho3⟩, hb3⟩; obtain ⟨v4, W4, v5, W5, u1, u2, hown5, hbel5⟩ := HT.out W3 (s3a, s3b, s3c) hb3 ho3; have U1 := ae u1; have U2 := ae u2; clear u1 u2) | (at_builtin; refine wpList_append_run _ rfl _ _ _ rfl _ _ v4 W4 rfl rfl U1.out ?_) | (at_builtin; refine wpList_append_run _ rfl _ _ _ rfl _ _ v5 W5 rfl rfl U2.out ?_))
        go_roundw
        case rel => exact ⟨k + 1, by omega, by go_num, by rw [HE.out.2], by rw [HE.out.1]; exact hown5, hbel5⟩
        case measure => simp [intOf]; omega
  ·have hlt' : l.length ≤ k := by omega
   have hbel' := ae hbel
   rw [List.take_of_length_le hlt'] at ho ⊢
   obtain ⟨se, hse⟩ : ∃ se, se = (em (am agg bound.toNat) l).2 := ⟨_, rfl⟩
   rw [← hse]
   by_cases he : se = 0
   ·have HF := ae (show fin (em (am agg bound.toNat) l) = ((em (am agg bound.toNat) l).1, 0) by rw [fin_ok (by rw [← hse]; exact he)]; exact Prod.ext rfl (by rw [← hse]; exact he))
    subst he
    clear hse
    go_wp2
    go_ret2
    rw [HF.out]
    exact ⟨⟨_, rfl, ho⟩, hbel'.out⟩
   ·have HF := ae (show fin (em (am agg bound.toNat) l) = ([], se) by rw [fS (by rw [← hse]; exact he), ← hse])
    have he' : (se != 0) = true := by simp [he]
    clear hse
    go_wp2
    go_ret2
    rw [HF.out]
    exact ⟨⟨_, rfl, aQ.nil _ _⟩, hbel'.out⟩
theorem rrecs_any (v : Value) (l : List Rc) (w : World) (h : RS w v l) (hl : l.length ≤ 100000) : Calls Tryz.prog 93 #[v] w (jI w (aU l)) := by
 have HK := ae (fun (x : Ky) W => rkey_any x W)
 rcases h.shape with ⟨a, cap, rfl, rfl⟩ | ⟨b, off, cap, rfl, hb, hat⟩
 ·go_enter Tryz.func93, Tryz.ntmps93
  go_wp2
  go_loop [3] (fun i => i = .int .i64 0) (fun _ => 0)
  case atStart => rfl
  case round =>
   subst hrel
   go_wp2
   go_ret
   exact ⟨rfl, Below.refl _ _⟩
 ·go_enter Tryz.func93, Tryz.ntmps93
  go_wp2
  go_loopw [3] (fun i wr => ∃ k : Nat, k ≤ l.length ∧ i = .int .i64 k ∧ aU (l.take k) = true ∧ Below w.heap.size w wr) (fun i _ => l.length - (intOf i).toNat)
  case atStart => exact ⟨0, by omega, rfl, rfl, Below.refl _ _⟩
  case round =>
   rename World => w0
   obtain ⟨k, hk, rfl, hok, hbel⟩ := hrel
   have hsz := hbel.size
   by_cases hlt : k < l.length
   ·obtain ⟨⟨⟨ya, yb⟩, yv⟩, hy⟩ := ak hlt
    obtain ⟨c0, c1, c2⟩ := hat.below hbel hb k _ hy
    simp only at c0 c1 c2
    have HC := HK.out (ya, yb)
    have HB := ae (hbel)
    by_cases hs : yb.size ≤ 64
    ·rw [show decide ((ya, yb).2.size ≤ 64) = true from decide_eq_true hs] at HC
     have hok2 := kZ hok hy hs
     clear HK
     go_wp2_with (go_at_call 120; refine (HC _).mono ?_; rintro e W2 ⟨rfl, hb2⟩)
     go_roundw
     case rel => exact ⟨k + 1, by omega, by go_num, hok2, ag HB.out hb2⟩
     case measure => simp [intOf]; omega
    ·rw [show decide ((ya, yb).2.size ≤ 64) = false from decide_eq_false hs] at HC
     have hbad := ae (mz hy hs)
     clear HK
     go_wp2_with (go_at_call 120; refine (HC _).mono ?_; rintro e W2 ⟨rfl, hb2⟩)
     go_ret
     exact ⟨by rw [hbad.out]; rfl, ag HB.out hb2⟩
   ·have hlt' : l.length ≤ k := by omega
    rw [List.take_of_length_le hlt'] at hok
    go_wp2
    go_ret
    exact ⟨by rw [hok]; rfl, hbel⟩
theorem ones_snoc (agg : Int) {l : List Rc} {k : Nat} {x : Rc} (hx : l[k]? = some x) : eo agg (l.take (k + 1)) = eo agg (l.take k) ++ [(x.1, dt agg x.2)] := by
 rw [List.take_add_one, hx]
 unfold eo
 simp
theorem ones_len (agg : Int) (l : List Rc) : (eo agg l).length = l.length := by unfold eo; simp
theorem oU (agg bound : Int) (v : Value) (l : List Rc) (w : World) (h : RS w v l) (hwf : Wf l) (hl : l.length ≤ 100000) (hw : aJ agg bound = true) :
  Calls Tryz.prog 57 #[.int .i64 agg, .int .i64 bound, v] w (RowsR w w.heap.size (fin (aB agg bound.toNat l))) := by
 obtain ⟨va, vc, rfl, hsh⟩ := h
 have HG := ae (fun (W : World) (u : Value) (hu : WS W u (eo agg l)) => rgather_any agg bound u (eo agg l) W hu ⟨fun r hr => by
  unfold eo at hr
  obtain ⟨y, hy, rfl⟩ := List.mem_map.1 hr
  exact okC_one hw ⟨(hwf y hy).v1, (hwf y hy).v2⟩⟩ (by rw [ones_len]; exact hl))
 go_enter Tryz.func57, Tryz.ntmps57
 go_wp2
 go_loopw [8, 9] (fun vo i wr => ∃ k : Nat, k ≤ l.length ∧ i = .int .i64 k ∧ aQ wr w.heap.size vo (eo agg (l.take k)) ∧ Below w.heap.size w wr) (fun _ i _ => l.length - (intOf i).toNat)
 case atStart => exact ⟨0, by omega, rfl, aQ.nil _ _, Below.refl _ _⟩
 case round =>
  rename World => w0
  obtain ⟨k, hk, rfl, ho, hbel⟩ := hrel
  have hsz := hbel.size
  by_cases hlt : k < l.length
  ·obtain ⟨⟨⟨ya, yb⟩, yv⟩, hy⟩ := ak hlt
   rcases hsh with rfl | ⟨b, off, rfl, hb, hat⟩
   ·simp at hlt
   have hbl : b < w0.heap.size := by omega
   have HY := ae (show ∀ W, Below w.heap.size w W → W.cell? ⟨b, off + k * 3, none⟩ = some (.int .i64 ya) ∧ W.cell? ⟨b, off + k * 3 + 1, none⟩ = some (.string yb) ∧ W.cell? ⟨b, off + k * 3 + 2, none⟩ = some (.int .i64 yv) ∧ Below w.heap.size w W from fun W hW => by
    obtain ⟨c0, c1, c2⟩ := hat.below hW hb k _ hy
    exact ⟨c0, c1, c2, hW⟩)
   have HO := ae (fun W => rone_any agg yv W)
   have HBEL := ae hbel
   obtain ⟨xs, hx, ha⟩ := ho
   have hxl : xs.length = k := by rw [ha.1, ones_len, List.length_take]; omega
   have hst : ∀ (W : World) (o : Obj), Below W.heap.size W (W.alloc o) := fun W o => (Below.refl _ _).alloc (Nat.le_refl _) _
   have HT := ae (show ∀ (W2 : World) (a2 : Option Addr) (c2 : Nat), Below w0.heap.size w0 W2 → ay W2 w0.heap.size (.slice a2 (dt agg yv).2.length c2) (dt agg yv).2 → ∃ v4 W4, (Builtin.append_ #[61, 61] 61 #[u8, .slice (some ⟨W2.heap.size, 0, none⟩) 1 1]).run Tryz.prog (W2.alloc (.cells #[.int .i64 ya, .string yb, .int .i64 (dt agg yv).1, .slice a2 (dt agg yv).2.length c2] 129)) = .ok v4 W4 ∧ aQ W4 w.heap.size v4 (eo agg (l.take (k + 1))) ∧ Below w.heap.size w W4 from fun W2 a2 c2 hb2 ho2 => by
    have X3 := (hx.below hb2).below (hst W2 (.cells #[.int .i64 ya, .string yb, .int .i64 (dt agg yv).1, .slice a2 (dt agg yv).2.length c2] 129))
    have G3 := ag hb2 (hst W2 (.cells #[.int .i64 ya, .string yb, .int .i64 (dt agg yv).1, .slice a2 (dt agg yv).2.length c2] 129))
    have O3 := ho2.below (hst W2 (.cells #[.int .i64 ya, .string yb, .int .i64 (dt agg yv).1, .slice a2 (dt agg yv).2.length c2] 129))
    obtain ⟨v4, W4, u1, X4, u3, -⟩ := cd 61 X3 (XS.new W2 ((ya, yb), (dt agg yv).1, (a2, (dt agg yv).2.length, c2))) (by simp; omega) (by have := G3.size; omega)
    have hk3 := cw X3 u3
    refine ⟨v4, W4, u1, ⟨_, X4, ?_⟩, (hbel.trans (G3.mono hsz)).grown u3 (by have := G3.size; omega) (aW X3)⟩
    rw [ones_snoc agg hy]
    exact ((ha.keep (.below G3)).keep hk3).snoc ⟨rfl, rfl, (O3.keep hk3).lower hsz⟩)
   clear hat hbel ha hx hst HG
   go_wp2
   go_region_held3 (fun W => W.cell? ⟨b, off + k * 3, none⟩ = some (.int .i64 ya) ∧ W.cell? ⟨b, off + k * 3 + 1, none⟩ = some (.string yb) ∧ W.cell? ⟨b, off + k * 3 + 2, none⟩ = some (.int .i64 yv) ∧ Below w.heap.size w W)
    (first
     | exact HY.out _ HBEL.out.drew
     | exact HY.out _ (HBEL.out.drew.trans (hb2.mono hsz))
     | exact HY.out _ ((HBEL.out.drew.trans (hb2.mono hsz)).alloc (HBEL.out.drew.trans (hb2.mono hsz)).size _)
     | exact HY.out _ hbel4)
    (first
     | (go_at_call 97; refine (HO.out _).mono ?_; rintro e W2 ⟨⟨v2, rfl, a2, c2, rfl, ho2⟩, hb2⟩; obtain ⟨v4, W4, u1, hown4, hbel4⟩ := HT.out W2 a2 c2 (ag ((Below.refl w0.heap.size w0).drew) hb2) ho2; have U1 := ae u1; clear u1)
     | (refine aL _ (by rfl) _ _ _ (by rfl) _ _ v4 W4 (by rfl) (by rfl) U1.out ?_))
   go_wp2
   go_roundw
   case rel => exact ⟨k + 1, by omega, by go_num, hown4, hbel4⟩
   case measure => simp [intOf]; omega
  ·have hlt' : l.length ≤ k := by omega
   rw [List.take_of_length_le hlt'] at ho
   have HR := ae (HG.out w0 _ ho.ws)
   have HBEL := ae hbel
   clear HG
   go_wp2_with (go_at_call 98; refine HR.out.mono ?_; rintro e w' ⟨⟨v', rfl, ho'⟩, hb'⟩)
   go_ret2
   exact ⟨⟨_, rfl, ho'.lower hsz⟩, HBEL.out.trans (hb'.mono hsz)⟩
end Go.Proofs.YtclcgakfmcofaaaGreatDoor
