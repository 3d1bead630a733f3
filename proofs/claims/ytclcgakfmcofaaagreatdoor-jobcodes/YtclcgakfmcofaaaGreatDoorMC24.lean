/- Texts laid together: WEq, WRGatF, WRFold. -/
import Derived.Test.YtclcgakfmcofaaaGreatDoorMC9
import Derived.Deep.RegionHeld3
namespace Go.Proofs.YtclcgakfmcofaaaGreatDoor
open Go.RowKit
set_option linter.unusedVariables false
set_option maxRecDepth 100000
structure Found (st : List Rw) (k : Ky) (p q : Nat) : Prop where
 pq : p ≤ q
 ql : q ≤ st.length
 lo : ∀ y ∈ st.take p, ltK y.1 k = true
 hi : ∀ y ∈ st.drop q, ltK y.1 k = false
theorem Found.start (st : List Rw) (k : Ky) : Found st k 0 st.length := ⟨Nat.zero_le _, Nat.le_refl _, by simp, by simp⟩
theorem rise_at {st : List Rw} (hr : RiseK st) {i j : Nat} {x y : Rw} (hi : st[i]? = some x) (hj : st[j]? = some y) (h : i < j) : ltK x.1 y.1 = true := by
 obtain ⟨h1, rfl⟩ := List.getElem?_eq_some_iff.1 hi
 obtain ⟨h2, rfl⟩ := List.getElem?_eq_some_iff.1 hj
 exact (List.pairwise_iff_getElem.1 hr) i j h1 h2 h
theorem Found.right {st : List Rw} {k : Ky} {p q m : Nat} {x : Rw} (h : Found st k p q) (hr : RiseK st) (hx : st[m]? = some x) (hm : m < q) (hlt : ltK x.1 k = true) : Found st k (m + 1) q := by
 refine ⟨hm, h.ql, fun y hy => ?_, h.hi⟩
 obtain ⟨i, hi⟩ := List.getElem?_of_mem hy
 have hil := (List.getElem?_eq_some_iff.1 hi).1
 rw [List.length_take] at hil
 rw [List.getElem?_take_of_lt (by omega)] at hi
 by_cases e : i = m
 ·subst e
  rw [hx] at hi
  injection hi with hi
  subst hi
  exact hlt
 ·exact ltK_trans (rise_at hr hi hx (by omega)) hlt
theorem Found.left {st : List Rw} {k : Ky} {p q m : Nat} {x : Rw} (h : Found st k p q) (hr : RiseK st) (hx : st[m]? = some x) (hm : p ≤ m) (hq : m < q) (hlt : ltK x.1 k = false) : Found st k p m := by
 refine ⟨hm, by have := h.ql; omega, h.lo, fun y hy => ?_⟩
 obtain ⟨i, hi⟩ := List.getElem?_of_mem hy
 rw [List.getElem?_drop] at hi
 by_cases e : i = 0
 ·subst e
  rw [Nat.add_zero, hx] at hi
  injection hi with hi
  subst hi
  exact hlt
 ·have h1 := rise_at hr hx hi (by omega)
  cases h2 : ltK y.1 k
  ·rfl
  ·rw [ltK_trans h1 h2] at hlt; cases hlt
theorem cfK_neg {x y : Ky} : decide (cfK x y < 0) = ltK x y := cfK_lt0 x y
theorem flatW_set (xs : List Raw) (p : Nat) (x : Raw) (n : Int) (s : Sl) (hx : xs[p]? = some x) : flatW (xs.set p (x.1, n, s)) = ((flatW xs).set (p * 4 + 2) (.int .i64 n)).set (p * 4 + 3) (slV s) := by
 induction xs generalizing p with
 | nil => simp at hx
 | cons a l ih =>
  cases p with
  | zero => simp at hx; subst hx; rfl
  | succ p =>
   have hx' : l[p]? = some x := by simpa using hx
   rw [List.set_cons_succ]
   show encW a ++ flatW (l.set p (x.1, n, s)) = ((encW a ++ flatW l).set ((p + 1) * 4 + 2) (.int .i64 n)).set ((p + 1) * 4 + 3) (slV s)
   rw [ih p hx']
   have e1 : (p + 1) * 4 + 2 = (encW a).length + (p * 4 + 2) := by simp [encW]; omega
   have e2 : (p + 1) * 4 + 3 = (encW a).length + (p * 4 + 3) := by simp [encW]; omega
   rw [e1, e2, List.set_append_right _ _ (by omega), List.set_append_right _ _ (by omega)]
   simp
theorem OwnX.set {w : World} {base g cap n0 : Nat} {xs : List Raw} {p : Nat} {x : Raw} (h : OwnX w base (.slice (some ⟨g, 0, none⟩) n0 cap) xs) (hx : xs[p]? = some x) (n : Int) (s : Sl) :
  OwnX ((w.setCell ⟨g, p * 4 + 2, none⟩ (.int .i64 n)).setCell ⟨g, p * 4 + 3, none⟩ (slV s)) base (.slice (some ⟨g, 0, none⟩) n0 cap) (xs.set p (x.1, n, s)) := by
 have hp := (List.getElem?_eq_some_iff.1 hx).1
 rcases h.2 with ⟨h1, _⟩ | ⟨g', cap', cur, h1, hg, hb, hn, hm, hs, ht⟩
 ·cases h1
 ·injection h1 with e1 e2 e3
  injection e1 with e1
  injection e1 with e1
  subst e1 e2 e3
  refine ⟨by rw [flatW_len], .inr ⟨g, cap, (cur.setIfInBounds (p * 4 + 2) (.int .i64 n)).setIfInBounds (p * 4 + 3) (slV s), by rw [List.length_set], hg, ?_, by rw [List.length_set]; exact hn, hm, by simp [hs], ?_⟩⟩
  ·simp [World.setCell, Array.getElem?_modify, hb]
  ·rw [List.length_set, flatW_set xs p x n s hx, ← ht]
   simp only [Array.toList_setIfInBounds]
   rw [List.take_set, List.take_set]
theorem AllW.set {w : World} {base : Nat} {xs : List Raw} {l : List Rw} {p : Nat} {x : Raw} {r : Rw} (h : AllW w base xs l) (k : IsW w base x r) : AllW w base (xs.set p x) (l.set p r) := by
 refine ⟨by simp [h.1], fun i y s h1 h2 => ?_⟩
 rw [List.getElem?_set] at h1 h2
 by_cases e : p = i
 ·subst e
  simp only [if_true] at h1 h2
  split at h1
  ·split at h2
   ·injection h1 with h1
    injection h2 with h2
    subst h1 h2
    exact k
   ·cases h2
  ·cases h1
 ·rw [if_neg e] at h1 h2
  exact h.2 i y s h1 h2
theorem AllW.app {w : World} {base : Nat} {xs ys : List Raw} {l m : List Rw} (h : AllW w base xs l) (k : AllW w base ys m) : AllW w base (xs ++ ys) (l ++ m) := by
 refine ⟨by simp [h.1, k.1], fun i y s h1 h2 => ?_⟩
 by_cases hi : i < xs.length
 ·rw [List.getElem?_append_left hi] at h1
  rw [List.getElem?_append_left (h.1 ▸ hi)] at h2
  exact h.2 i y s h1 h2
 ·rw [List.getElem?_append_right (by omega)] at h1
  rw [List.getElem?_append_right (by have := h.1; omega), ← h.1] at h2
  exact k.2 _ y s h1 h2
theorem AllW.take {w : World} {base : Nat} {xs : List Raw} {l : List Rw} (h : AllW w base xs l) (p : Nat) : AllW w base (xs.take p) (l.take p) := by
 refine ⟨by simp [h.1], fun i y s h1 h2 => ?_⟩
 have hi := (List.getElem?_eq_some_iff.1 h1).1
 rw [List.length_take] at hi
 rw [List.getElem?_take_of_lt (by omega)] at h1 h2
 exact h.2 i y s h1 h2
theorem AllW.drop {w : World} {base : Nat} {xs : List Raw} {l : List Rw} (h : AllW w base xs l) (p : Nat) : AllW w base (xs.drop p) (l.drop p) := by
 refine ⟨by simp [h.1], fun i y s h1 h2 => ?_⟩
 rw [List.getElem?_drop] at h1 h2
 exact h.2 _ y s h1 h2
set_option maxRecDepth 100000
structure Fit (agg bound : Int) (l : List Rw) : Prop where
 ok : ∀ r ∈ l, OkC agg bound r.2
theorem gstep {J : Cl → Cl → Cl × Int} {l : List Rw} {k : Nat} {r : Rw} (hr : l[k]? = some r) : gat J (l.take (k + 1)) = stepG J (gat J (l.take k)) r := by
 rw [List.take_add_one, hr]
 exact gat_snoc J _ _
theorem cell_set_ne {W : World} {g o o' : Nat} {u : Value} (h : o' ≠ o) : (W.setCell ⟨g, o, none⟩ u).cell? ⟨g, o', none⟩ = W.cell? ⟨g, o', none⟩ := by
 simp only [World.cell?, World.setCell, Array.getElem?_modify]
 simp only [if_true]
 cases W.heap[g]? with
 | none => rfl
 | some x => cases x <;> simp [Ne.symm h]
theorem frozen_set {W : World} {g o : Nat} {u : Value} {a : Addr} : (W.setCell ⟨g, o, none⟩ u).frozen? a = W.frozen? a := by simp
theorem OwnX.frozen {w : World} {base g cap n0 : Nat} {xs : List Raw} (h : OwnX w base (.slice (some ⟨g, 0, none⟩) n0 cap) xs) (o : Nat) : w.frozen? ⟨g, o, none⟩ = false := by
 rcases h.2 with ⟨h1, _⟩ | ⟨g', cap', cur, h1, hg, hb, -⟩
 ·cases h1
 ·injection h1 with e1 e2 e3
  injection e1 with e1
  injection e1 with e1
  subst e1
  simp [World.frozen?, hb]
set_option maxHeartbeats 4000000 in
theorem rgather_any (agg bound : Int) (v : Value) (l : List Rw) (w : World) (h : WS w v l) (hf : Fit agg bound l) (hl : l.length ≤ 100000) :
  Calls Tryz.prog 98 #[.int .i64 agg, .int .i64 bound, v] w (RowsR w w.heap.size (fin (gat (joinC agg bound.toNat) l))) := by
 obtain ⟨va, vc, rfl, hsh⟩ := h
 go_enter Tryz.func98, Tryz.ntmps98
 go_wp2
 go_loopw [8, 9, 10] (fun vo e i wr => ∃ k : Nat, k ≤ l.length ∧ i = .int .i64 k ∧ e = .int .i64 (gat (joinC agg bound.toNat) (l.take k)).2 ∧ OwnW wr w.heap.size vo (gat (joinC agg bound.toNat) (l.take k)).1 ∧ Below w.heap.size w wr) (fun _ _ i _ => l.length - (intOf i).toNat)
 case atStart => exact ⟨0, by omega, rfl, rfl, OwnW.nil _ _, Below.refl _ _⟩
 case round =>
  rename World => w0
  obtain ⟨k, hk, rfl, rfl, ho, hbel⟩ := hrel
  have hsz := hbel.size
  by_cases hlt : k < l.length
  ·obtain ⟨⟨⟨ya, yb⟩, yn, yl⟩, hy⟩ := getSome hlt
   have hg := gstep (J := joinC agg bound.toNat) hy
   have hrise := rise_gat (joinC agg bound.toNat) (l.take k)
   have hokS : ∀ x c, look (gat (joinC agg bound.toNat) (l.take k)).1 x = some c → OkC agg bound c := okC_gat _ fun r hr => hf.ok r (List.mem_of_mem_take hr)
   have hokY : OkC agg bound (yn, yl) := hf.ok _ (List.mem_of_getElem? hy)
   have hlen := len_gat (joinC agg bound.toNat) (l.take k)
   rw [List.length_take] at hlen
   rw [Nat.min_eq_left (by omega)] at hlen
   obtain ⟨⟨st, se⟩, hS⟩ : ∃ S, S = gat (joinC agg bound.toNat) (l.take k) := ⟨_, rfl⟩
   rw [← hS] at hg hrise hokS hlen ho
   have hS' := hidM hS
   simp only at hrise hokS hlen ho
   rcases hsh with rfl | ⟨b, off, rfl, hb, hat⟩
   ·simp at hlt
   obtain ⟨c0, c1, c2, s1, p1, c3, n1⟩ := (hat.below hbel hb) k _ hy
   simp only at c0 c1 c2 c3 n1
   obtain ⟨xs, hx, ha⟩ := ho
   rcases hx.2 with ⟨rfl, h0⟩ | ⟨g, cap, cur, evo, hg0, -⟩
   ·-- NIL
    have hx0 : xs = [] := List.length_eq_zero_iff.1 h0
    subst hx0
    have hst0 : st = [] := List.length_eq_zero_iff.1 ha.1.symm
    subst hst0
    have hbl : b < w0.heap.size := by omega
    have HY := hidM (show ∀ W, Below w0.heap.size w0 W → W.cell? ⟨b, off + k * 4, none⟩ = some (.int .i64 ya) ∧ W.cell? ⟨b, off + k * 4 + 1, none⟩ = some (.string yb) ∧ W.cell? ⟨b, off + k * 4 + 2, none⟩ = some (.int .i64 yn) ∧ W.cell? ⟨b, off + k * 4 + 3, none⟩ = some (.slice s1 yl.length p1) from fun W hW =>
     ⟨(hW.cell (p := ⟨b, _, none⟩) hbl).trans c0, (hW.cell (p := ⟨b, _, none⟩) hbl).trans c1, (hW.cell (p := ⟨b, _, none⟩) hbl).trans c2, (hW.cell (p := ⟨b, _, none⟩) hbl).trans c3⟩)
    have HA := hidM ha
    have HN := hidM n1
    have HBEL := hidM hbel
    have HG := hidM hg
    have HXL : Hid (([] : List Raw).length = ([] : List Rw).length) := rfl
    have hpu : Hid (putR (joinC agg bound.toNat) (ya, yb) (yn, yl) [] = (([] : List Rw).take 0 ++ [((ya, yb), (yn, yl))] ++ ([] : List Rw).drop 0, 0)) := rfl
    clear hx ha n1 hbel hat hg hS hf c0 c1 c2 c3
    go_wp2
    go_loopw [11, 12] (fun lo hi w2 => lo = .int .i64 0 ∧ hi = .int .i64 0 ∧ w0 = w2) (fun lo hi _ => 0)
    case atStart => exact ⟨rfl, rfl, rfl⟩
    case round =>
     obtain ⟨rfl, rfl, rfl⟩ := hrel
     go_wp2
     go_quiet (fail)
     have HQ := hidM (Drawn.below (w := w0) (wr := w0.drewN nq) ⟨nq, rfl⟩ w0.heap.size)
     generalize w0.drewN nq = Wq at HQ ⊢
     have XT : Hid (∀ W, Below w0.heap.size w0 W → XS W (.slice none 0 0) (([] : List Raw).take 0)) := fun W _ => ⟨none, 0, rfl, .inl rfl⟩
     have XD : Hid (∀ W, Below w0.heap.size w0 W → XS W (.slice none 0 0) (([] : List Raw).drop 0)) := fun W _ => ⟨none, 0, rfl, .inl rfl⟩
     have hst : ∀ (W : World) (o : Obj), Below W.heap.size W (W.alloc o) := fun W o => (Below.refl _ _).alloc (Nat.le_refl _) _
     obtain ⟨W1, hW1⟩ : ∃ W1 : World, W1 = Wq.alloc (.cells #[] 129) := ⟨_, rfl⟩
     have G1 : Below w0.heap.size w0 W1 := by rw [hW1]; exact HQ.out.alloc HQ.out.size _
     have X1 : OwnX W1 w0.heap.size (.slice (some ⟨Wq.heap.size, 0, none⟩) 0 0) [] := by rw [hW1]; exact World.ownsRow_made Wq #[] 0 HQ.out.size (Nat.zero_le _) (by simp)
     obtain ⟨v2, W2, t1, X2, t3, -⟩ := append_xs 61 X1 (XT.out W1 G1) (by have := HXL.out; first | (simp; omega) | simp) G1.size
     rw [List.nil_append] at X2
     have G2 : Below w0.heap.size w0 W2 := G1.grown t3 G1.size (own_row X1)
     obtain ⟨z0, z1, z2, z3⟩ := HY.out W2 G2
     have HC := hidM (copyRow_any (ya, yb) yn yl s1 p1 W2 (HN.out.below G2) (Nat.le_trans hokY.2.2 (by decide)))
     have HW1 := hidM hW1.symm
     have R1 := hidM t1
     have HT := hidM (show ∀ (W3 : World) (s3 : Sl), Below W2.heap.size W2 W3 → OwnL W3 W2.heap.size (slV s3) yl → ∃ v4 W4 v5 W5, (Builtin.append_ #[61, 61] 61 #[v2, .slice (some ⟨W3.heap.size, 0, none⟩) 1 1]).run Tryz.prog (W3.alloc (.cells #[.int .i64 ya, .string yb, .int .i64 yn, slV s3] 129)) = .ok v4 W4 ∧ (Builtin.append_ #[61, 61] 61 #[v4, (.slice none 0 0)]).run Tryz.prog W4 = .ok v5 W5 ∧ OwnW W5 w.heap.size v5 (([] : List Rw).take 0 ++ [((ya, yb), (yn, yl))] ++ ([] : List Rw).drop 0) ∧ Below w.heap.size w W5 from fun W3 s3 hb3 ho3 => by
      have X3 := (X2.below hb3).below (hst W3 (.cells #[.int .i64 ya, .string yb, .int .i64 yn, slV s3] 129))
      have G3 := nxt (nxt G2 hb3) (hst W3 (.cells #[.int .i64 ya, .string yb, .int .i64 yn, slV s3] 129))
      have O3 := ho3.below (hst W3 (.cells #[.int .i64 ya, .string yb, .int .i64 yn, slV s3] 129))
      obtain ⟨v4, W4, u1, X4, u3, -⟩ := append_xs 61 X3 (XS.new W3 ((ya, yb), yn, s3)) (by have := HXL.out; first | (simp; omega) | simp) G3.size
      have G4 : Below w0.heap.size w0 W4 := G3.grown u3 G3.size (own_row X3)
      have O4 := O3.keep (keep_row X3 u3)
      obtain ⟨v5, W5, y1, X5, y3, -⟩ := append_xs 61 X4 (XD.out W4 G4) (by have := HXL.out; first | (simp; omega) | simp) G4.size
      have G5 : Below w0.heap.size w0 W5 := G4.grown y3 G4.size (own_row X4)
      have O5 := O4.keep (keep_row X4 y3)
      have A5 : AllW W5 w.heap.size [] [] := HA.out.keep (.below G5)
      have N5 : AllW W5 w.heap.size [((ya, yb), yn, s3)] [((ya, yb), (yn, yl))] := (AllW.nil W5 w.heap.size).snoc ⟨rfl, rfl, O5.lower (by have := G2.size; omega)⟩
      exact ⟨v4, W4, v5, W5, u1, y1, ⟨_, X5.lower hsz, ((A5.take 0).app N5).app (A5.drop 0)⟩, HBEL.out.trans (G5.mono hsz)⟩)
     have HE := hidM (show (gat (joinC agg bound.toNat) (l.take (k + 1))).1 = ([] : List Rw).take 0 ++ [((ya, yb), (yn, yl))] ++ ([] : List Rw).drop 0 ∧ (gat (joinC agg bound.toNat) (l.take (k + 1))).2 = (gat (joinC agg bound.toNat) (l.take k)).2 from by
      rw [HG.out, ← hS'.out]
      unfold stepG
      simp only
      rw [hpu.out]
      exact ⟨rfl, rfl⟩)
     clear hst hW1 X1 X2 t1 t3 G1 G2
     go_wp2_with (at_builtin; rw [HW1.out]; refine wpList_append_run _ rfl _ _ _ rfl _ _ v2 W2 rfl rfl R1.out ?_)
     go_wp2_with (first | (go_at_call 145; refine HC.out.mono ?_; rintro e W3 ⟨⟨⟨s3a, s3b, s3c⟩, rfl, ho3⟩, hb3⟩; obtain ⟨v4, W4, v5, W5, u1, u2, hown5, hbel5⟩ := HT.out W3 (s3a, s3b, s3c) hb3 ho3; have U1 := hidM u1; have U2 := hidM u2; clear u1 u2) | (at_builtin; refine wpList_append_run _ rfl _ _ _ rfl _ _ v4 W4 rfl rfl U1.out ?_) | (at_builtin; refine wpList_append_run _ rfl _ _ _ rfl _ _ v5 W5 rfl rfl U2.out ?_))
     go_roundw
     case rel => exact ⟨k + 1, by omega, by go_num, by rw [HE.out.2], by rw [HE.out.1]; exact hown5, hbel5⟩
     case measure => simp [intOf]; omega
   ·rw [ha.1] at evo
    subst evo
    obtain ⟨hgl, -, hxcap, hxc⟩ := hx.cell
    have hxl : xs.length = st.length := ha.1
    rw [hxl] at hxcap
    have HXL := hidM hxl
    have HAT := hidM (show ∀ (m : Nat) (x : Raw) W, Below w0.heap.size w0 W → xs[m]? = some x → W.cell? ⟨g, m * 4, none⟩ = some (.int .i64 x.1.1) ∧ W.cell? ⟨g, m * 4 + 1, none⟩ = some (.string x.1.2) ∧ W.cell? ⟨g, m * 4 + 2, none⟩ = some (.int .i64 x.2.1) ∧ W.cell? ⟨g, m * 4 + 3, none⟩ = some (slV x.2.2) from fun m x W hW hm => by
     obtain ⟨f0, f1, f2, f3⟩ := flatW_get xs m x hm
     exact ⟨(hW.cell (p := ⟨g, _, none⟩) hgl).trans (hxc _ _ f0), (hW.cell (p := ⟨g, _, none⟩) hgl).trans (hxc _ _ f1), (hW.cell (p := ⟨g, _, none⟩) hgl).trans (hxc _ _ f2), (hW.cell (p := ⟨g, _, none⟩) hgl).trans (hxc _ _ f3)⟩)
    have hbl : b < w0.heap.size := by omega
    have HY := hidM (show ∀ W, Below w0.heap.size w0 W → W.cell? ⟨b, off + k * 4, none⟩ = some (.int .i64 ya) ∧ W.cell? ⟨b, off + k * 4 + 1, none⟩ = some (.string yb) ∧ W.cell? ⟨b, off + k * 4 + 2, none⟩ = some (.int .i64 yn) ∧ W.cell? ⟨b, off + k * 4 + 3, none⟩ = some (.slice s1 yl.length p1) from fun W hW =>
     ⟨(hW.cell (p := ⟨b, _, none⟩) hbl).trans c0, (hW.cell (p := ⟨b, _, none⟩) hbl).trans c1, (hW.cell (p := ⟨b, _, none⟩) hbl).trans c2, (hW.cell (p := ⟨b, _, none⟩) hbl).trans c3⟩)
    have HA := hidM ha
    have HX := hidM hx
    have HN := hidM n1
    have HBEL := hidM hbel
    have HG := hidM hg
    clear hxc ha hx n1 hbel hat hg hS hf cur c0 c1 c2 c3 hxl
    go_wp2
    go_loopw [11, 12] (fun lo hi w2 => ∃ p q : Nat, lo = .int .i64 p ∧ hi = .int .i64 q ∧ Found st (ya, yb) p q ∧ Below w0.heap.size w0 w2) (fun lo hi _ => (intOf hi - intOf lo).toNat)
    case atStart => exact ⟨0, st.length, rfl, by first | rfl | rw [hxl], Found.start _ _, Below.refl _ _⟩
    case round =>
     rename World => w2
     obtain ⟨p, q, rfl, rfl, hfo, hb2⟩ := hrel
     have hpq := hfo.pq
     have hql := hfo.ql
     by_cases hplt : p < q
     ·obtain ⟨m, hm⟩ : ∃ m : Nat, m = (p + q) / 2 := ⟨_, rfl⟩
      have hmp : p ≤ m := by omega
      have hmq : m < q := by omega
      obtain ⟨x, hx⟩ := getSome (l := xs) (i := m) (by have := HXL.out; omega)
      obtain ⟨r, hr⟩ := getSome (l := st) (i := m) (by omega)
      have ek := (HA.out.2 m x r hx hr).k
      obtain ⟨⟨xa, xb⟩, xn, xsl⟩ := x
      obtain ⟨a0, a1, -, -⟩ := HAT.out m _ w2 hb2 hx
      obtain ⟨y0, y1, -, -⟩ := HY.out w2 hb2
      simp only at a0 a1
      have hmid : ((p : Int) + (q : Int)).tdiv 2 = (m : Int) := by rw [Int.tdiv_eq_ediv_of_nonneg (by omega)]; omega
      have hmx : m < st.length := by omega
      have HC := hidM (fun W => rcmp_any (xa, xb) (ya, yb) W)
      have HB2 := hidM hb2
      have hneg := cfK_neg (x := (xa, xb)) (y := (ya, yb))
      obtain ⟨cf, hcf⟩ : ∃ cf : Int, cf = cfK (xa, xb) (ya, yb) := ⟨_, rfl⟩
      rw [← hcf] at HC hneg
      have HS := hidM (show ∀ W, Below w0.heap.size w0 W → W.cell? ⟨g, m * 4, none⟩ = some (.int .i64 xa) ∧ W.cell? ⟨g, m * 4 + 1, none⟩ = some (.string xb) ∧ W.cell? ⟨b, off + k * 4, none⟩ = some (.int .i64 ya) ∧ W.cell? ⟨b, off + k * 4 + 1, none⟩ = some (.string yb) ∧ Below w0.heap.size w0 W from fun W hW =>
       ⟨(HAT.out m _ W hW hx).1, (HAT.out m _ W hW hx).2.1, (HY.out W hW).1, (HY.out W hW).2.1, hW⟩)
      have HNEG := hidM hneg
      have EK := hidM ek
      clear hcf hb2 hm hneg ek
      go_wp2
      go_region_held3 (fun W => W.cell? ⟨g, m * 4, none⟩ = some (.int .i64 xa) ∧ W.cell? ⟨g, m * 4 + 1, none⟩ = some (.string xb) ∧ W.cell? ⟨b, off + k * 4, none⟩ = some (.int .i64 ya) ∧ W.cell? ⟨b, off + k * 4 + 1, none⟩ = some (.string yb) ∧ Below w0.heap.size w0 W)
       (first | exact HS.out _ HB2.out.drew | exact HS.out _ (nxt HB2.out.drew hb3))
       (first | (go_at_call 117; refine (HC.out _).mono ?_; rintro e W3 ⟨rfl, hb3⟩))
      have hb3' := hidM (nxt HB2.out.drew hb3)
      have hneg := HNEG.out
      have ek := EK.out
      cases hlk : ltK (xa, xb) (ya, yb) with
      | true =>
       rw [hlk] at hneg
       have hneg' : cf < 0 := by simpa using hneg
       have HF := hidM (hfo.right hrise hr hmq (by rw [← ek]; exact hlk))
       clear hneg ek
       go_wp2
       go_roundw
       case rel => exact ⟨m + 1, q, by go_num, rfl, HF.out, hb3'.out⟩
       case measure => simp [intOf]; omega
      | false =>
       rw [hlk] at hneg
       have hneg' : ¬ cf < 0 := by simpa using hneg
       have HF := hidM (hfo.left hrise hr hmp hmq (by rw [← ek]; exact hlk))
       clear hneg ek
       go_wp2
       go_roundw
       case rel => exact ⟨p, m, rfl, rfl, HF.out, hb3'.out⟩
       case measure => simp [intOf]; omega
     ·have epq : q = p := by omega
      subst epq
      have hplt' : ¬ ((q : Int) < (q : Int)) := by omega
      obtain ⟨y0, y1, y2, y3⟩ := HY.out w2 hb2
      have hb2' := hidM hb2
      obtain ⟨pa1, pa2⟩ := putR_at (J := joinC agg bound.toNat) (c := (yn, yl)) hrise hql hfo.lo hfo.hi
      by_cases hd : ∃ d, st[q]? = some ((ya, yb), d)
      ·obtain ⟨⟨dn, dl⟩, hd⟩ := hd
       have hpu := hidM (pa1 _ hd)
       obtain ⟨x, hx⟩ := getSome (l := xs) (i := q) (by have := HXL.out; have := (List.getElem?_eq_some_iff.1 hd).1; omega)
       obtain ⟨ek, en, es⟩ := HA.out.2 q x _ hx hd
       obtain ⟨xk, xn, xs1, xs2, xs3⟩ := x
       simp only at ek en es
       subst ek en
       obtain ⟨sa, sc, hs'⟩ := es.shape
       injection hs' with e1 e2 e3
       subst e1 e2 e3
       have hqx : q < st.length := (List.getElem?_eq_some_iff.1 hd).1
       obtain ⟨a0, a1, a2, a3⟩ := HAT.out q _ w2 hb2 hx
       simp only at a0 a1 a2 a3
       have he := fun W => eqK ya ya yb yb W
       rw [eqB_self] at he
       have hgd := fun op p q xs ys W => guardK op p q xs ys W
       have hokD := hidM (hokS _ _ (mem_look hrise (List.mem_of_getElem? hd)))
       clear hb2 pa1 pa2 hfo
       go_wp2
       go_quiet (fail)
       go_wp2
       have HQ := hidM (show Below w0.heap.size w0 (w2.drewN nq) from ⟨hb2'.out.os, hb2'.out.tape, hb2'.out.output, hb2'.out.size, hb2'.out.block⟩)
       generalize w2.drewN nq = Wq at HQ ⊢
       have KJ := hidM (show ∀ W : World, Below w0.heap.size w0 W → W.cell? ⟨g, q * 4 + 2, none⟩ = some (.int .i64 xn) ∧ W.cell? ⟨g, q * 4 + 3, none⟩ = some (.slice xs1 dl.length xs3) ∧ W.cell? ⟨b, off + k * 4 + 2, none⟩ = some (.int .i64 yn) ∧ W.cell? ⟨b, off + k * 4 + 3, none⟩ = some (.slice s1 yl.length p1) ∧ Below w0.heap.size w0 W from fun W hW =>
        ⟨(HAT.out q _ W hW hx).2.2.1, (HAT.out q _ W hW hx).2.2.2, (HY.out W hW).2.2.1, (HY.out W hW).2.2.2, hW⟩)
       have JN := hidM (fun W (hW : Below w0.heap.size w0 W) => rjoin_any agg bound _ _ (xn, dl) (yn, yl) W ⟨xs1, xs3, rfl, (OwnL.ns es).below hW⟩ ⟨s1, p1, rfl, HN.out.below hW⟩ hokD.out.2.1 hokY.2.1 (by have := hokD.out.2.2; show dl.length ≤ 50000; have h : dl.length ≤ 32 := this; omega) (by have h : yl.length ≤ 32 := hokY.2.2; show yl.length ≤ 50000; omega) hokD.out.1 hokY.1)
       rw [joinR_of hokD.out.1 hokY.1] at JN
       obtain ⟨⟨⟨r1, r2⟩, re⟩, hre⟩ : ∃ r : Cl × Int, r = joinC agg bound.toNat (xn, dl) (yn, yl) := ⟨_, rfl⟩
       rw [← hre] at JN
       simp only at JN
       have HJ : Hid (joinC agg bound.toNat (xn, dl) (yn, yl) = ((r1, r2), re)) := hre.symm
       have B8 := hidM (show BlkC (Wq.alloc (.cells #[.int .i64 0, .slice none 0 0] 127)).drew Wq.heap.size 0 (.slice none 0 0) from BlkC.new Wq 0 (.slice none 0 0))
       clear hre he a0 a1 a2 a3 y0 y1 y2 y3
       go_region_held3 (fun W => W.cell? ⟨g, q * 4 + 2, none⟩ = some (.int .i64 xn) ∧ W.cell? ⟨g, q * 4 + 3, none⟩ = some (.slice xs1 dl.length xs3) ∧ W.cell? ⟨b, off + k * 4 + 2, none⟩ = some (.int .i64 yn) ∧ W.cell? ⟨b, off + k * 4 + 3, none⟩ = some (.slice s1 yl.length p1) ∧ Below w0.heap.size w0 W)
        (first
         | exact KJ.out _ HQ.out.drew
         | exact KJ.out _ (HQ.out.alloc HQ.out.size _).drew
         | exact KJ.out _ (nxt (‹_ ∧ _ ∧ _ ∧ _ ∧ Below w0.heap.size w0 _›).2.2.2.2 hb5)
         | exact KJ.out _ ((‹_ ∧ _ ∧ _ ∧ _ ∧ Below w0.heap.size w0 _›).2.2.2.2.alloc (‹_ ∧ _ ∧ _ ∧ _ ∧ Below w0.heap.size w0 _›).2.2.2.2.size _)
         | exact KJ.out _ ((nxt HQ.out.drew hb5).alloc (nxt HQ.out.drew hb5).size _)
         | exact KJ.out _ (below_set (‹_ ∧ _ ∧ _ ∧ _ ∧ Below w0.heap.size w0 _›).2.2.2.2 HQ.out.size _ _))
        (first | (go_at_call 144; refine (JN.out _ (‹_ ∧ _ ∧ _ ∧ _ ∧ Below w0.heap.size w0 _›).2.2.2.2).mono ?_; rintro e W5 ⟨⟨v5, rfl, a5, c5, rfl, ho5⟩, hb5⟩; first | (refine with_blk B8.out hb5 r1 ?_; rintro ⟨c80, c81, f80, f81, c81', f81'⟩) | skip))
       ·have F0 := nxt (HQ.out.drew) hb5
        have F1 : Below w0.heap.size w0 (W5.alloc (.cells #[.int .i64 r1, .slice a5 r2.length c5] 127)) := F0.alloc F0.size _
        have F2 := BlkC.new W5 r1 (.slice a5 r2.length c5)
        have F3 : OwnL (W5.alloc (.cells #[.int .i64 r1, .slice a5 r2.length c5] 127)) w.heap.size (.slice a5 r2.length c5) r2 := (ho5.below ((Below.refl _ _).alloc (Nat.le_refl _) _)).lower (by have := HQ.out.size; show w.heap.size ≤ Wq.heap.size; omega)
        generalize W5.alloc (.cells #[.int .i64 r1, .slice a5 r2.length c5] 127) = W6 at F1 F2 F3 ⊢
        obtain ⟨q0, q1, -, -⟩ := F2.cells
        have hxW : OwnX W6 w.heap.size (.slice (some ⟨g, 0, none⟩) st.length cap) xs := HX.out.below F1
        have haW : AllW W6 w.heap.size xs st := HA.out.keep (.below F1)
        have hbW : Below w.heap.size w W6 := HBEL.out.trans (F1.mono hsz)
        by_cases hre : re = 0
        ·subst hre
         obtain ⟨h1, -, h3, h4⟩ := HAT.out q _ W6 F1 hx
         have hfr := hxW.frozen
         have h3' : (W6.setCell ⟨g, q * 4 + 2, none⟩ (.int .i64 r1)).cell? ⟨g, q * 4 + 3, none⟩ = some (.slice xs1 dl.length xs3) := by rw [cell_set_ne (by omega)]; exact h4
         have hfr' : (W6.setCell ⟨g, q * 4 + 2, none⟩ (.int .i64 r1)).frozen? ⟨g, q * 4 + 3, none⟩ = false := by rw [frozen_set]; exact hfr _
         have f2 := hfr (q * 4 + 2)
         simp only at h3 h4
         have HE := hidM (show (gat (joinC agg bound.toNat) (l.take (k + 1))).1 = st.set q ((ya, yb), (r1, r2)) ∧ (gat (joinC agg bound.toNat) (l.take (k + 1))).2 = (gat (joinC agg bound.toNat) (l.take k)).2 from by
          rw [HG.out, ← hS'.out]
          unfold stepG
          simp only
          rw [hpu.out, HJ.out]
          exact ⟨rfl, rfl⟩)
         have hg3 : ∀ u u', W6.grownBy ((W6.setCell ⟨g, q * 4 + 2, none⟩ u).setCell ⟨g, q * 4 + 3, none⟩ u') (some g) := fun u u' => (grownBy_set W6 g (q * 4 + 2) u).trans (grownBy_set _ g (q * 4 + 3) u')
         have FIN := hidM (show OwnW ((W6.setCell ⟨g, q * 4 + 2, none⟩ (.int .i64 r1)).setCell ⟨g, q * 4 + 3, none⟩ (.slice a5 r2.length c5)) w.heap.size (.slice (some ⟨g, 0, none⟩) st.length cap) (gat (joinC agg bound.toNat) (l.take (k + 1))).1 ∧ Below w.heap.size w ((W6.setCell ⟨g, q * 4 + 2, none⟩ (.int .i64 r1)).setCell ⟨g, q * 4 + 3, none⟩ (.slice a5 r2.length c5)) from by
          rw [HE.out.1]
          have hk := keep_row hxW (hg3 (.int .i64 r1) (.slice a5 r2.length c5))
          refine ⟨⟨_, hxW.set hx r1 (a5, r2.length, c5), (haW.keep hk).set ⟨rfl, rfl, F3.keep hk⟩⟩, (hbW.setCell (p := ⟨g, _, none⟩) (own_row hxW g rfl) _).setCell (p := ⟨g, _, none⟩) (own_row hxW g rfl) _⟩)
         clear hxW haW hbW F1 F2 F3 hg3 hfr h1
         go_wp2
         go_roundw
         case rel => exact ⟨k + 1, by omega, by go_num, by rw [HE.out.2], FIN.out⟩
         case measure => simp [intOf]; omega
        ·have hre' : (re != 0) = true := by simp [hre]
         have HE := hidM (show (gat (joinC agg bound.toNat) (l.take (k + 1))).1 = st ∧ (gat (joinC agg bound.toNat) (l.take (k + 1))).2 = re from by
          rw [HG.out]
          unfold stepG
          simp only
          rw [hpu.out, HJ.out]
          simp only [if_neg hre]
          exact ⟨trivial, trivial⟩)
         have FIN := hidM (show OwnW W6 w.heap.size (.slice (some ⟨g, 0, none⟩) st.length cap) (gat (joinC agg bound.toNat) (l.take (k + 1))).1 ∧ Below w.heap.size w W6 from by
          rw [HE.out.1]
          exact ⟨⟨_, hxW, haW⟩, hbW⟩)
         clear hxW haW hbW F1 F2 F3
         go_wp2
         go_roundw
         case rel => exact ⟨k + 1, by omega, by go_num, by rw [HE.out.2], FIN.out⟩
         case measure => simp [intOf]; omega
       ·have F0 : Below w0.heap.size w0 W5 := nxt ((HQ.out.alloc HQ.out.size (.cells #[.int .i64 0, .slice none 0 0] 127)).drew) hb5
        have F1 : Below w0.heap.size w0 ((W5.setCell ⟨Wq.heap.size, 0, none⟩ (.int .i64 r1)).setCell ⟨Wq.heap.size, 1, none⟩ (.slice a5 r2.length c5)) := below_set F0 HQ.out.size _ _
        have F2 := (B8.out.below hb5).set (m := r1) (u := .slice a5 r2.length c5)
        have F3 : OwnL ((W5.setCell ⟨Wq.heap.size, 0, none⟩ (.int .i64 r1)).setCell ⟨Wq.heap.size, 1, none⟩ (.slice a5 r2.length c5)) w.heap.size (.slice a5 r2.length c5) r2 := (own_set ho5 (by simp) _ _).lower (by have := HQ.out.size; simp; omega)
        generalize (W5.setCell ⟨Wq.heap.size, 0, none⟩ (.int .i64 r1)).setCell ⟨Wq.heap.size, 1, none⟩ (.slice a5 r2.length c5) = W6 at F1 F2 F3 ⊢
        obtain ⟨q0, q1, -, -⟩ := F2.cells
        have hxW : OwnX W6 w.heap.size (.slice (some ⟨g, 0, none⟩) st.length cap) xs := HX.out.below F1
        have haW : AllW W6 w.heap.size xs st := HA.out.keep (.below F1)
        have hbW : Below w.heap.size w W6 := HBEL.out.trans (F1.mono hsz)
        by_cases hre : re = 0
        ·subst hre
         obtain ⟨h1, -, h3, h4⟩ := HAT.out q _ W6 F1 hx
         have hfr := hxW.frozen
         have h3' : (W6.setCell ⟨g, q * 4 + 2, none⟩ (.int .i64 r1)).cell? ⟨g, q * 4 + 3, none⟩ = some (.slice xs1 dl.length xs3) := by rw [cell_set_ne (by omega)]; exact h4
         have hfr' : (W6.setCell ⟨g, q * 4 + 2, none⟩ (.int .i64 r1)).frozen? ⟨g, q * 4 + 3, none⟩ = false := by rw [frozen_set]; exact hfr _
         have f2 := hfr (q * 4 + 2)
         simp only at h3 h4
         have HE := hidM (show (gat (joinC agg bound.toNat) (l.take (k + 1))).1 = st.set q ((ya, yb), (r1, r2)) ∧ (gat (joinC agg bound.toNat) (l.take (k + 1))).2 = (gat (joinC agg bound.toNat) (l.take k)).2 from by
          rw [HG.out, ← hS'.out]
          unfold stepG
          simp only
          rw [hpu.out, HJ.out]
          exact ⟨rfl, rfl⟩)
         have hg3 : ∀ u u', W6.grownBy ((W6.setCell ⟨g, q * 4 + 2, none⟩ u).setCell ⟨g, q * 4 + 3, none⟩ u') (some g) := fun u u' => (grownBy_set W6 g (q * 4 + 2) u).trans (grownBy_set _ g (q * 4 + 3) u')
         have FIN := hidM (show OwnW ((W6.setCell ⟨g, q * 4 + 2, none⟩ (.int .i64 r1)).setCell ⟨g, q * 4 + 3, none⟩ (.slice a5 r2.length c5)) w.heap.size (.slice (some ⟨g, 0, none⟩) st.length cap) (gat (joinC agg bound.toNat) (l.take (k + 1))).1 ∧ Below w.heap.size w ((W6.setCell ⟨g, q * 4 + 2, none⟩ (.int .i64 r1)).setCell ⟨g, q * 4 + 3, none⟩ (.slice a5 r2.length c5)) from by
          rw [HE.out.1]
          have hk := keep_row hxW (hg3 (.int .i64 r1) (.slice a5 r2.length c5))
          refine ⟨⟨_, hxW.set hx r1 (a5, r2.length, c5), (haW.keep hk).set ⟨rfl, rfl, F3.keep hk⟩⟩, (hbW.setCell (p := ⟨g, _, none⟩) (own_row hxW g rfl) _).setCell (p := ⟨g, _, none⟩) (own_row hxW g rfl) _⟩)
         clear hxW haW hbW F1 F2 F3 hg3 hfr h1
         go_wp2
         go_roundw
         case rel => exact ⟨k + 1, by omega, by go_num, by rw [HE.out.2], FIN.out⟩
         case measure => simp [intOf]; omega
        ·have hre' : (re != 0) = true := by simp [hre]
         have HE := hidM (show (gat (joinC agg bound.toNat) (l.take (k + 1))).1 = st ∧ (gat (joinC agg bound.toNat) (l.take (k + 1))).2 = re from by
          rw [HG.out]
          unfold stepG
          simp only
          rw [hpu.out, HJ.out]
          simp only [if_neg hre]
          exact ⟨trivial, trivial⟩)
         have FIN := hidM (show OwnW W6 w.heap.size (.slice (some ⟨g, 0, none⟩) st.length cap) (gat (joinC agg bound.toNat) (l.take (k + 1))).1 ∧ Below w.heap.size w W6 from by
          rw [HE.out.1]
          exact ⟨⟨_, hxW, haW⟩, hbW⟩)
         clear hxW haW hbW F1 F2 F3
         go_wp2
         go_roundw
         case rel => exact ⟨k + 1, by omega, by go_num, by rw [HE.out.2], FIN.out⟩
         case measure => simp [intOf]; omega
      ·-- NEW
       have hpu := hidM (pa2 (fun d hd' => hd ⟨d, hd'⟩))
       have XT := hidM (fun W (hW : Below w0.heap.size w0 W) => XS.take (HX.out.below hW) q (by have := HXL.out; omega) cap)
       have XD := hidM (fun W (hW : Below w0.heap.size w0 W) => XS.drop (HX.out.below hW) q (by have := HXL.out; omega) (cap - q))
       rw [HXL.out] at XD
       by_cases hqx : q < st.length
       ·obtain ⟨r, hr⟩ := getSome (l := st) (i := q) hqx
        obtain ⟨x, hx⟩ := getSome (l := xs) (i := q) (by have := HXL.out; omega)
        have ek := (HA.out.2 q x r hx hr).k
        obtain ⟨⟨xa, xb⟩, xn, xsl⟩ := x
        obtain ⟨a0, a1, -, -⟩ := HAT.out q _ w2 hb2 hx
        simp only at a0 a1 ek
        have hne : eqB (xa, xb) (ya, yb) = false := by
         unfold eqB
         exact decide_eq_false fun e => hd ⟨r.2, by rw [hr, ← e, ek]⟩
        have he := fun W => eqK xa ya xb yb W
        rw [hne] at he
        have hgd := fun op p q xs ys W => guardK op p q xs ys W
        clear hb2 pa1 pa2 hfo hd ek hne
        go_wp2
        go_quiet (fail)
        have HQ := hidM (show Below w0.heap.size w0 (w2.drewN nq) from ⟨hb2'.out.os, hb2'.out.tape, hb2'.out.output, hb2'.out.size, hb2'.out.block⟩)
        generalize w2.drewN nq = Wq at HQ ⊢
        clear he a0 a1 y0 y1 y2 y3 hx hr
        have hst : ∀ (W : World) (o : Obj), Below W.heap.size W (W.alloc o) := fun W o => (Below.refl _ _).alloc (Nat.le_refl _) _
        obtain ⟨W1, hW1⟩ : ∃ W1 : World, W1 = Wq.alloc (.cells #[] 129) := ⟨_, rfl⟩
        have G1 : Below w0.heap.size w0 W1 := by rw [hW1]; exact HQ.out.alloc HQ.out.size _
        have X1 : OwnX W1 w0.heap.size (.slice (some ⟨Wq.heap.size, 0, none⟩) 0 0) [] := by rw [hW1]; exact World.ownsRow_made Wq #[] 0 HQ.out.size (Nat.zero_le _) (by simp)
        obtain ⟨v2, W2, t1, X2, t3, -⟩ := append_xs 61 X1 (XT.out W1 G1) (by have := HXL.out; first | (simp; omega) | simp) G1.size
        rw [List.nil_append] at X2
        have G2 : Below w0.heap.size w0 W2 := G1.grown t3 G1.size (own_row X1)
        obtain ⟨z0, z1, z2, z3⟩ := HY.out W2 G2
        have HC := hidM (copyRow_any (ya, yb) yn yl s1 p1 W2 (HN.out.below G2) (Nat.le_trans hokY.2.2 (by decide)))
        have HW1 := hidM hW1.symm
        have R1 := hidM t1
        have HT := hidM (show ∀ (W3 : World) (s3 : Sl), Below W2.heap.size W2 W3 → OwnL W3 W2.heap.size (slV s3) yl → ∃ v4 W4 v5 W5, (Builtin.append_ #[61, 61] 61 #[v2, .slice (some ⟨W3.heap.size, 0, none⟩) 1 1]).run Tryz.prog (W3.alloc (.cells #[.int .i64 ya, .string yb, .int .i64 yn, slV s3] 129)) = .ok v4 W4 ∧ (Builtin.append_ #[61, 61] 61 #[v4, (.slice (some ⟨g, q * 4, none⟩) (st.length - q) (cap - q))]).run Tryz.prog W4 = .ok v5 W5 ∧ OwnW W5 w.heap.size v5 (st.take q ++ [((ya, yb), (yn, yl))] ++ st.drop q) ∧ Below w.heap.size w W5 from fun W3 s3 hb3 ho3 => by
         have X3 := (X2.below hb3).below (hst W3 (.cells #[.int .i64 ya, .string yb, .int .i64 yn, slV s3] 129))
         have G3 := nxt (nxt G2 hb3) (hst W3 (.cells #[.int .i64 ya, .string yb, .int .i64 yn, slV s3] 129))
         have O3 := ho3.below (hst W3 (.cells #[.int .i64 ya, .string yb, .int .i64 yn, slV s3] 129))
         obtain ⟨v4, W4, u1, X4, u3, -⟩ := append_xs 61 X3 (XS.new W3 ((ya, yb), yn, s3)) (by have := HXL.out; first | (simp; omega) | simp) G3.size
         have G4 : Below w0.heap.size w0 W4 := G3.grown u3 G3.size (own_row X3)
         have O4 := O3.keep (keep_row X3 u3)
         obtain ⟨v5, W5, y1, X5, y3, -⟩ := append_xs 61 X4 (XD.out W4 G4) (by have := HXL.out; first | (simp; omega) | simp) G4.size
         have G5 : Below w0.heap.size w0 W5 := G4.grown y3 G4.size (own_row X4)
         have O5 := O4.keep (keep_row X4 y3)
         have A5 : AllW W5 w.heap.size xs st := HA.out.keep (.below G5)
         have N5 : AllW W5 w.heap.size [((ya, yb), yn, s3)] [((ya, yb), (yn, yl))] := (AllW.nil W5 w.heap.size).snoc ⟨rfl, rfl, O5.lower (by have := G2.size; omega)⟩
         exact ⟨v4, W4, v5, W5, u1, y1, ⟨_, X5.lower hsz, ((A5.take q).app N5).app (A5.drop q)⟩, HBEL.out.trans (G5.mono hsz)⟩)
        have HE := hidM (show (gat (joinC agg bound.toNat) (l.take (k + 1))).1 = st.take q ++ [((ya, yb), (yn, yl))] ++ st.drop q ∧ (gat (joinC agg bound.toNat) (l.take (k + 1))).2 = (gat (joinC agg bound.toNat) (l.take k)).2 from by
         rw [HG.out, ← hS'.out]
         unfold stepG
         simp only
         rw [hpu.out]
         exact ⟨rfl, rfl⟩)
        clear hst hW1 X1 X2 t1 t3 G1 G2
        go_wp2_with (at_builtin; rw [HW1.out]; refine wpList_append_run _ rfl _ _ _ rfl _ _ v2 W2 rfl rfl R1.out ?_)
        go_wp2_with (first | (go_at_call 145; refine HC.out.mono ?_; rintro e W3 ⟨⟨⟨s3a, s3b, s3c⟩, rfl, ho3⟩, hb3⟩; obtain ⟨v4, W4, v5, W5, u1, u2, hown5, hbel5⟩ := HT.out W3 (s3a, s3b, s3c) hb3 ho3; have U1 := hidM u1; have U2 := hidM u2; clear u1 u2) | (at_builtin; refine wpList_append_run _ rfl _ _ _ rfl _ _ v4 W4 rfl rfl U1.out ?_) | (at_builtin; refine wpList_append_run _ rfl _ _ _ rfl _ _ v5 W5 rfl rfl U2.out ?_))
        go_roundw
        case rel => exact ⟨k + 1, by omega, by go_num, by rw [HE.out.2], by rw [HE.out.1]; exact hown5, hbel5⟩
        case measure => simp [intOf]; omega
       ·have hqx' : ¬ ((q : Int) < (st.length : Int)) := by omega
        clear XD
        have XD := hidM (show ∀ W : World, Below w0.heap.size w0 W → XS W (.slice (if cap = q then some ⟨g, 0, none⟩ else some ⟨g, q * 4, none⟩) (st.length - q) (cap - q)) (xs.drop q) from fun W _ => by
         have h0 : xs.drop q = [] := List.drop_eq_nil_of_le (by have := HXL.out; omega)
         exact ⟨_, _, by rw [h0, show st.length - q = 0 by omega]; rfl, .inl h0⟩)
        clear hb2 pa1 pa2 hfo hd
        go_wp2
        go_quiet (fail)
        have HQ := hidM (show Below w0.heap.size w0 (w2.drewN nq) from ⟨hb2'.out.os, hb2'.out.tape, hb2'.out.output, hb2'.out.size, hb2'.out.block⟩)
        generalize w2.drewN nq = Wq at HQ ⊢
        clear y0 y1 y2 y3 hqx hqx'
        have hst : ∀ (W : World) (o : Obj), Below W.heap.size W (W.alloc o) := fun W o => (Below.refl _ _).alloc (Nat.le_refl _) _
        obtain ⟨W1, hW1⟩ : ∃ W1 : World, W1 = Wq.alloc (.cells #[] 129) := ⟨_, rfl⟩
        have G1 : Below w0.heap.size w0 W1 := by rw [hW1]; exact HQ.out.alloc HQ.out.size _
        have X1 : OwnX W1 w0.heap.size (.slice (some ⟨Wq.heap.size, 0, none⟩) 0 0) [] := by rw [hW1]; exact World.ownsRow_made Wq #[] 0 HQ.out.size (Nat.zero_le _) (by simp)
        obtain ⟨v2, W2, t1, X2, t3, -⟩ := append_xs 61 X1 (XT.out W1 G1) (by have := HXL.out; first | (simp; omega) | simp) G1.size
        rw [List.nil_append] at X2
        have G2 : Below w0.heap.size w0 W2 := G1.grown t3 G1.size (own_row X1)
        obtain ⟨z0, z1, z2, z3⟩ := HY.out W2 G2
        have HC := hidM (copyRow_any (ya, yb) yn yl s1 p1 W2 (HN.out.below G2) (Nat.le_trans hokY.2.2 (by decide)))
        have HW1 := hidM hW1.symm
        have R1 := hidM t1
        have HT := hidM (show ∀ (W3 : World) (s3 : Sl), Below W2.heap.size W2 W3 → OwnL W3 W2.heap.size (slV s3) yl → ∃ v4 W4 v5 W5, (Builtin.append_ #[61, 61] 61 #[v2, .slice (some ⟨W3.heap.size, 0, none⟩) 1 1]).run Tryz.prog (W3.alloc (.cells #[.int .i64 ya, .string yb, .int .i64 yn, slV s3] 129)) = .ok v4 W4 ∧ (Builtin.append_ #[61, 61] 61 #[v4, (.slice (if cap = q then some ⟨g, 0, none⟩ else some ⟨g, q * 4, none⟩) (st.length - q) (cap - q))]).run Tryz.prog W4 = .ok v5 W5 ∧ OwnW W5 w.heap.size v5 (st.take q ++ [((ya, yb), (yn, yl))] ++ st.drop q) ∧ Below w.heap.size w W5 from fun W3 s3 hb3 ho3 => by
         have X3 := (X2.below hb3).below (hst W3 (.cells #[.int .i64 ya, .string yb, .int .i64 yn, slV s3] 129))
         have G3 := nxt (nxt G2 hb3) (hst W3 (.cells #[.int .i64 ya, .string yb, .int .i64 yn, slV s3] 129))
         have O3 := ho3.below (hst W3 (.cells #[.int .i64 ya, .string yb, .int .i64 yn, slV s3] 129))
         obtain ⟨v4, W4, u1, X4, u3, -⟩ := append_xs 61 X3 (XS.new W3 ((ya, yb), yn, s3)) (by have := HXL.out; first | (simp; omega) | simp) G3.size
         have G4 : Below w0.heap.size w0 W4 := G3.grown u3 G3.size (own_row X3)
         have O4 := O3.keep (keep_row X3 u3)
         obtain ⟨v5, W5, y1, X5, y3, -⟩ := append_xs 61 X4 (XD.out W4 G4) (by have := HXL.out; first | (simp; omega) | simp) G4.size
         have G5 : Below w0.heap.size w0 W5 := G4.grown y3 G4.size (own_row X4)
         have O5 := O4.keep (keep_row X4 y3)
         have A5 : AllW W5 w.heap.size xs st := HA.out.keep (.below G5)
         have N5 : AllW W5 w.heap.size [((ya, yb), yn, s3)] [((ya, yb), (yn, yl))] := (AllW.nil W5 w.heap.size).snoc ⟨rfl, rfl, O5.lower (by have := G2.size; omega)⟩
         exact ⟨v4, W4, v5, W5, u1, y1, ⟨_, X5.lower hsz, ((A5.take q).app N5).app (A5.drop q)⟩, HBEL.out.trans (G5.mono hsz)⟩)
        have HE := hidM (show (gat (joinC agg bound.toNat) (l.take (k + 1))).1 = st.take q ++ [((ya, yb), (yn, yl))] ++ st.drop q ∧ (gat (joinC agg bound.toNat) (l.take (k + 1))).2 = (gat (joinC agg bound.toNat) (l.take k)).2 from by
         rw [HG.out, ← hS'.out]
         unfold stepG
         simp only
         rw [hpu.out]
         exact ⟨rfl, rfl⟩)
        clear hst hW1 X1 X2 t1 t3 G1 G2
        go_wp2_with (at_builtin; rw [HW1.out]; refine wpList_append_run _ rfl _ _ _ rfl _ _ v2 W2 rfl rfl R1.out ?_)
        go_wp2_with (first | (go_at_call 145; refine HC.out.mono ?_; rintro e W3 ⟨⟨⟨s3a, s3b, s3c⟩, rfl, ho3⟩, hb3⟩; obtain ⟨v4, W4, v5, W5, u1, u2, hown5, hbel5⟩ := HT.out W3 (s3a, s3b, s3c) hb3 ho3; have U1 := hidM u1; have U2 := hidM u2; clear u1 u2) | (at_builtin; refine wpList_append_run _ rfl _ _ _ rfl _ _ v4 W4 rfl rfl U1.out ?_) | (at_builtin; refine wpList_append_run _ rfl _ _ _ rfl _ _ v5 W5 rfl rfl U2.out ?_))
        go_roundw
        case rel => exact ⟨k + 1, by omega, by go_num, by rw [HE.out.2], by rw [HE.out.1]; exact hown5, hbel5⟩
        case measure => simp [intOf]; omega
  ·have hlt' : l.length ≤ k := by omega
   have hbel' := hidM hbel
   rw [List.take_of_length_le hlt'] at ho ⊢
   obtain ⟨se, hse⟩ : ∃ se, se = (gat (joinC agg bound.toNat) l).2 := ⟨_, rfl⟩
   rw [← hse]
   by_cases he : se = 0
   ·have HF := hidM (show fin (gat (joinC agg bound.toNat) l) = ((gat (joinC agg bound.toNat) l).1, 0) by rw [fin_ok (by rw [← hse]; exact he)]; exact Prod.ext rfl (by rw [← hse]; exact he))
    subst he
    clear hse
    go_wp2
    go_ret2
    rw [HF.out]
    exact ⟨⟨_, rfl, ho⟩, hbel'.out⟩
   ·have HF := hidM (show fin (gat (joinC agg bound.toNat) l) = ([], se) by rw [fin_bad (by rw [← hse]; exact he), ← hse])
    have he' : (se != 0) = true := by simp [he]
    clear hse
    go_wp2
    go_ret2
    rw [HF.out]
    exact ⟨⟨_, rfl, OwnW.nil _ _⟩, hbel'.out⟩
set_option maxRecDepth 100000
end Go.Proofs.YtclcgakfmcofaaaGreatDoor
