/- Texts laid together: GJoinF, WAdd, GApp, GRJoin, GTk, GTkF, GBy, GComb, WAddO. -/
import Derived.Test.YtclcgakfmcofaaaGreatDoorMW5
import Derived.Test.YtclcgakfmcofaaaGreatDoorMW6
import Derived.Test.YtclcgakfmcofaaaGreatDoorMW2
import Derived.Test.YtclcgakfmcofaaaGreatDoorMW3
import Derived.RegionTactic
import Derived.ChangeAlike
import Derived.Deep.RegionHeld3
import Derived.Deep.AppendLies
import Derived.Test.YtclcgakfmcofaaaGreatDoorMW4
set_option linter.unusedVariables false
set_option maxRecDepth 100000
set_option maxHeartbeats 2000000
namespace Go.Proofs.YtclcgakfmcofaaaGreatDoor
open Go.RowKit
def eJ (agg bound : Int) (a b : Cl) : Cl × Int := if fd agg bound a && fd agg bound b then am agg bound.toNat a b else ((0, []), 1)
theorem fX {agg bound : Int} {c : Cl} (h : fd agg bound c = true) : aJ agg bound = true ∧ gH agg bound.toNat c = true := by simpa [fd] using h
theorem jJ {bound : Nat} {c : Cl} (h : gH 6 bound c = true) : c.1 = 0 ∧ bl c.2 ∧ c.2.length ≤ bound := by
 rw [may6] at h
 simp only [Bool.and_eq_true, decide_eq_true_eq] at h
 exact ⟨h.1.1, h.2, h.1.2⟩
theorem ij {agg : Int} {bound : Nat} {c : Cl} (h6 : agg ≠ 6) (h : gH agg bound c = true) : c.2 = [] ∧ nP agg c.1 := by
 unfold gH at h
 rw [if_neg h6] at h
 simp only [Bool.and_eq_true, decide_eq_true_eq] at h
 exact ⟨h.1, h.2⟩
structure JW (w W : World) (a b : Cl) (va vb : Value) : Prop where
 bel : Below w.heap.size w W
 sz : W.heap.size = w.heap.size + 3
 ba : aH W w.heap.size a.1 va
 bb : aH W (w.heap.size + 1) b.1 vb
 br : aH W (w.heap.size + 2) 0 (.slice none 0 0)
def jw (w : World) (a b : Cl) (va vb : Value) : World := ((w.alloc (.cells #[.int .i64 a.1, va] 127)).alloc (.cells #[.int .i64 b.1, vb] 127)).alloc (.cells #[.int .i64 0, .slice none 0 0] 127)
theorem jw_ok (w : World) (a b : Cl) (va vb : Value) : JW w (jw w a b va vb) a b va vb := by
 have n1 := aH.new w a.1 va
 have n2 := aH.new (w.alloc (.cells #[.int .i64 a.1, va] 127)) b.1 vb
 have n3 := aH.new ((w.alloc (.cells #[.int .i64 a.1, va] 127)).alloc (.cells #[.int .i64 b.1, vb] 127)) 0 (.slice none 0 0)
 have st : ∀ (W : World) (o : Obj), Below W.heap.size W (W.alloc o) := fun W o => (Below.refl _ _).alloc (Nat.le_refl _) _
 refine ⟨ag (ag (st _ _) (st _ _)) (st _ _), by simp [jw], (n1.below (st _ _)).below (st _ _), ?_, ?_⟩
 ·have := n2.below (st _ (.cells #[.int .i64 0, .slice none 0 0] 127))
  simpa [jw] using this
 ·simpa [jw] using n3
theorem JW.next {w W W' : World} {a b : Cl} {va vb : Value} (h : JW w W a b va vb) (hb : Below W.heap.size W W') : Below w.heap.size w W' ∧ aH W' w.heap.size a.1 va ∧ aH W' (w.heap.size + 1) b.1 vb ∧ aH W' (w.heap.size + 2) 0 (.slice none 0 0) ∧ w.heap.size + 3 ≤ W'.heap.size :=
 ⟨ag h.bel hb, h.ba.below hb, h.bb.below hb, h.br.below hb, by have := hb.size; have := h.sz; omega⟩
theorem kB {w W : World} {b : Nat} {n : Int} {e0 : Int} (h : Below w.heap.size w W) (hb : w.heap.size ≤ b) : fE w (n, []) e0 (.returned (.tuple #[.agg #[.int .i64 n, .slice none 0 0], .int .i64 e0])) ((W.setCell ⟨b, 0, none⟩ (.int .i64 n)).setCell ⟨b, 1, none⟩ (.slice none 0 0)) :=
 ⟨⟨_, rfl, iQ.num _ _ _⟩, bN h hb _ _⟩
theorem join_any (agg bound : Int) (va vb : Value) (a b : Cl) (w : World) (ha : CS w va a) (hb : CS w vb b) (wa : WfC a) (wb : WfC b) (hla : a.2.length ≤ 50000) (hlb : b.2.length ≤ 50000) :
  Calls Tryz.prog 161 #[.int .i64 agg, .int .i64 bound, va, vb] w (fE w (eJ agg bound a b).1 (eJ agg bound a b).2) := by
 obtain ⟨aa, ca, rfl, na⟩ := ha
 obtain ⟨ab, cb, rfl, nb⟩ := hb
 obtain ⟨W, hW⟩ : ∃ W : World, W = jw w a b (.slice aa a.2.length ca) (.slice ab b.2.length cb) := ⟨_, rfl⟩
 have hJ : JW w W a b (.slice aa a.2.length ca) (.slice ab b.2.length cb) := by rw [hW]; exact jw_ok _ _ _ _ _
 have H1 := ae (eB agg bound _ a W ⟨aa, ca, rfl, na.below hJ.bel⟩ (by omega))
 have H2 := ae (fun W' (h : Below W.heap.size W W') => eB agg bound _ b W' ⟨ab, cb, rfl, (nb.below hJ.bel).below h⟩ (by omega))
 have HJ := ae hJ
 have HW := ae (show ((w.alloc (.cells #[.int .i64 a.1, .slice aa a.2.length ca] 127)).alloc (.cells #[.int .i64 b.1, .slice ab b.2.length cb] 127)).alloc (.cells #[.int .i64 0, .slice none 0 0] 127) = W from hW.symm)
 have l1 := hJ.ba.load
 unfold eJ
 cases hca : fd agg bound a with
 | false =>
  rw [hca, show iz false = 1 from rfl] at H1
  simp only [Bool.false_and, Bool.false_eq_true, if_false]
  clear hJ hW
  have HA := ae na
  have HN := ae nb
  clear na nb
  go_enter Tryz.func161, Tryz.ntmps161
  go_wp2_with (go_at_call 80; rw [HW.out]; refine H1.out.mono ?_; rintro e W2 ⟨rfl, hb2⟩; obtain ⟨b2, ba2, bb2, br2, sz2⟩ := HJ.out.next hb2; obtain ⟨c0, c1, f0, f1⟩ := br2.cells; obtain ⟨-, c1', -, f1'⟩ := (br2.set0 0).cells)
  exact bodyPost_ret (ar rfl rfl br2.set.load) rfl (kB b2 (by omega))
 | true =>
  rw [hca, show iz true = 0 from rfl] at H1
  cases hcb : fd agg bound b with
  | false =>
   rw [hcb, show iz false = 1 from rfl] at H2
   simp only [Bool.and_false, Bool.false_eq_true, if_false]
   clear hJ hW
   have HA := ae na
   have HN := ae nb
   clear na nb
   go_enter Tryz.func161, Tryz.ntmps161
   go_wp2_with (go_at_call 80; rw [HW.out]; refine H1.out.mono ?_; rintro e W2 ⟨rfl, hb2⟩; obtain ⟨-, -, bb2, -, -⟩ := HJ.out.next hb2; obtain ⟨l0, l1, -, -⟩ := bb2.cells)
   go_wp2_with (go_at_call 80; refine (H2.out _ hb2).mono ?_; rintro e W3 ⟨rfl, hb3⟩; have hb3' := ag hb2 hb3; obtain ⟨b3, ba3, bb3, br3, sz3⟩ := HJ.out.next hb3'; obtain ⟨c0, c1, f0, f1⟩ := br3.cells; obtain ⟨-, c1', -, f1'⟩ := (br3.set0 0).cells; obtain ⟨a0, a1, -, -⟩ := ba3.cells; obtain ⟨e0, e1, -, -⟩ := bb3.cells)
   exact bodyPost_ret (ar rfl rfl br3.set.load) rfl (kB b3 (by omega))
  | true =>
   rw [hcb, show iz true = 0 from rfl] at H2
   simp only [Bool.and_self, if_true]
   obtain ⟨hw, hma⟩ := fX hca
   obtain ⟨-, hmb⟩ := fX hcb
   obtain ⟨g1, g6, gb, gb32, gb1⟩ := jH hw
   obtain ⟨bd, rfl⟩ := Int.eq_ofNat_of_zero_le gb
   rw [Int.toNat_natCast] at hma hmb ⊢
   by_cases h6 : agg = 6
   ·subst h6
    obtain ⟨-, hr, -⟩ := jJ hmb
    have H3 := ae (fun W' (h : Below W.heap.size W W') => joinSets_any bd _ _ a.2 b.2 W' ((na.below hJ.bel).below h) ((nb.below hJ.bel).below h) hr hla hlb)
    rw [show am 6 bd a b = gA bd a.2 b.2 by unfold am gA; rw [if_pos rfl]]
    generalize gA bd a.2 b.2 = r at *
    clear hJ hW
    have HA := ae na
    have HN := ae nb
    clear na nb hr hma hmb hca hcb hw
    go_enter Tryz.func161, Tryz.ntmps161
    go_wp2_with (go_at_call 80; rw [HW.out]; refine H1.out.mono ?_; rintro e W2 ⟨rfl, hb2⟩; obtain ⟨-, -, bb2, -, -⟩ := HJ.out.next hb2; obtain ⟨l0, l1, -, -⟩ := bb2.cells)
    go_wp2_with (go_at_call 80; refine (H2.out _ hb2).mono ?_; rintro e W3 ⟨rfl, hb3⟩; have hb3' := ag hb2 hb3; obtain ⟨b3, ba3, bb3, br3, sz3⟩ := HJ.out.next hb3'; obtain ⟨c0, c1, f0, f1⟩ := br3.cells; obtain ⟨-, c1', -, f1'⟩ := (br3.set0 r.1.1).cells; obtain ⟨a0, a1, -, -⟩ := ba3.cells; obtain ⟨e0, e1, -, -⟩ := bb3.cells)
    go_wp2_with (go_at_call 198; refine (H3.out _ hb3').mono ?_; rintro e W4 ⟨⟨v4, rfl, a4, c4, rfl, ho4⟩, hb4⟩; have hb4' := ag hb3' hb4; obtain ⟨b4, ba4, bb4, br4, sz4⟩ := HJ.out.next hb4'; obtain ⟨k0, k1, p0, p1⟩ := br4.cells; obtain ⟨-, k1', -, p1'⟩ := (br4.set0 r.1.1).cells)
    exact bodyPost_ret (ar rfl rfl br4.set.load) rfl ⟨⟨_, rfl, _, _, rfl, (fW ho4 (by omega) _ _).lower (by omega)⟩, bN b4 (by omega) _ _⟩
   ·obtain ⟨-, pa⟩ := ij h6 hma
    obtain ⟨-, pb⟩ := ij h6 hmb
    have H3 := ae (fun W' => lO agg a.1 b.1 W' g1 (by omega) wa.1 wb.1 pa pb)
    rw [show am agg bd a b = ((nF agg a.1 b.1, []), 0) by unfold am; rw [if_neg h6]]
    generalize nF agg a.1 b.1 = r at *
    have h6' : (agg == 6) = false := by simpa using h6
    clear hJ hW
    have HA := ae na
    have HN := ae nb
    clear na nb hma hmb hca hcb hw pa pb
    go_enter Tryz.func161, Tryz.ntmps161
    go_wp2_with (go_at_call 80; rw [HW.out]; refine H1.out.mono ?_; rintro e W2 ⟨rfl, hb2⟩; obtain ⟨-, -, bb2, -, -⟩ := HJ.out.next hb2; obtain ⟨l0, l1, -, -⟩ := bb2.cells)
    go_wp2_with (go_at_call 80; refine (H2.out _ hb2).mono ?_; rintro e W3 ⟨rfl, hb3⟩; have hb3' := ag hb2 hb3; obtain ⟨b3, ba3, bb3, br3, sz3⟩ := HJ.out.next hb3'; obtain ⟨c0, c1, f0, f1⟩ := br3.cells; obtain ⟨-, c1', -, f1'⟩ := (br3.set0 r).cells; obtain ⟨a0, a1, -, -⟩ := ba3.cells; obtain ⟨e0, e1, -, -⟩ := bb3.cells)
    go_wp2_with (go_at_call 199; refine (H3.out _).mono ?_; rintro e W4 ⟨rfl, rfl⟩)
    exact bodyPost_ret (ar rfl rfl br3.set.load) rfl (kB b3 (by omega))
end Go.Proofs.YtclcgakfmcofaaaGreatDoor
namespace Go.Proofs.YtclcgakfmcofaaaGreatDoor
open Go.Maps Go.RowKit
structure km (w : World) (base gp mp : Nat) (agg bound : Int) (st : List Rw) (bad : Int) (n : Nat) : Prop where
 gb : w.heap[gp]? = some (.cells #[.int .i64 agg, .int .i64 bound, .map (some mp), .int .i64 bad] 255 (0, 0))
 mo : ∃ D, w.ownsMap Tryz.prog 124 RC mp n D ∧ gD w base D st
 hg : base ≤ gp
 hm : base ≤ mp
theorem km.below {w w' : World} {base gp mp : Nat} {agg bound : Int} {st : List Rw} {bad : Int} {n : Nat} (h : km w base gp mp agg bound st bad n) (hb : Below w.heap.size w w') : km w' base gp mp agg bound st bad n := by
 obtain ⟨D, h1, h2⟩ := h.mo
 refine ⟨by rw [hb.block gp (Array.getElem?_eq_some_iff.1 h.gb).1]; exact h.gb, ⟨D, ?_, h2.keep (.below hb)⟩, h.hg, h.hm⟩
 obtain ⟨es, clock, hb1, r⟩ := h1
 exact ⟨es, clock, by rw [hb.block mp (Array.getElem?_eq_some_iff.1 hb1).1]; exact hb1, r⟩
theorem km.cells {w : World} {base gp mp : Nat} {agg bound : Int} {st : List Rw} {bad : Int} {n : Nat} (h : km w base gp mp agg bound st bad n) :
  w.cell? ⟨gp, 0, none⟩ = some (.int .i64 agg) ∧ w.cell? ⟨gp, 1, none⟩ = some (.int .i64 bound) ∧ w.cell? ⟨gp, 2, none⟩ = some (.map (some mp)) ∧ w.cell? ⟨gp, 3, none⟩ = some (.int .i64 bad) ∧ w.frozen? ⟨gp, 3, none⟩ = false := by
 have h := h.gb
 refine ⟨?_, ?_, ?_, ?_, ?_⟩ <;> simp [World.cell?, World.frozen?, h]
theorem look_no {W : World} {mp n : Nat} {D : DataW Value} {k : Ky} (hom : W.ownsMap Tryz.prog 124 RC mp n D) (hk : eI k) (hh : Maps.has D (ep k) = false) :
  (Instr.lookup 253 (.map (some mp)) (iy k) true).run Tryz.prog W = .ok (.tuple #[zC, .bool false]) W := by
 obtain ⟨v, ps, hrun, hv⟩ := hom.look_ok law Tryz.underlying253 (zeroC _) (zd := .held zC) (zp := []) rfl (fV hk)
 rw [atKey_of_not_has hh] at hv
 have := rc_held hv
 injection this with this
 rw [hrun, hh, ← this]
theorem look_yes {W : World} {mp n : Nat} {D : DataW Value} {k : Ky} {u : Value} (hom : W.ownsMap Tryz.prog 124 RC mp n D) (hk : eI k) (hat : ∀ z, D.atKey (ep k) z = .held u) :
  (Instr.lookup 253 (.map (some mp)) (iy k) true).run Tryz.prog W = .ok (.tuple #[u, .bool true]) W := by
 obtain ⟨v, ps, hrun, hv⟩ := hom.look_ok law Tryz.underlying253 (zeroC _) (zd := .held zC) (zp := []) rfl (fV hk)
 rw [hat] at hv
 have := rc_held hv
 injection this with this
 rw [hrun, has_true_of_atKey hat, ← this]
theorem aL {P : Program} (w : World) {E : Prop} {ops : Array Oper} {o : Oper} {a : Act} {K : Act → World → Prop} {Q : Exit → Act → World → Prop} (hgd : o.guard = none) (s x : Operand) (t : TypeId)
  (ho : o.op = .call { callee := .builtin .append, args := #[s, x], argTypes := #[t, t] }) (v u v' : Value) (w' : World) (hs : a.eval s = v) (hx : a.eval x = u)
  (hr : (Builtin.append_ #[t, t] o.type #[v, u]).run P w = .ok v' w') (h : K (a.put o.dst v') w') : if Region.wanted o (yielded ops a.tmps) = true then Oper.wp P o a w K Q else E := by
 have hw : Region.wanted o (yielded ops a.tmps) = true := by simp [Region.wanted, hgd]
 rw [if_pos hw]
 unfold Oper.wp execOp
 simp only [ho, resolve, invoke, builtin, Sem.run_bind, Sem.run_pure, Result.andThen_ok, List.map_toArray, List.map_cons, List.map_nil, hs, hx, hr]
 exact h
theorem blk2 {W : World} {b : Nat} {u v : Value} {T : TypeId} (h : W.heap[b]? = some (.cells #[u, v] T (0, 0))) : W.cell? ⟨b, 0, none⟩ = some u ∧ W.cell? ⟨b, 1, none⟩ = some v := by
 refine ⟨?_, ?_⟩ <;> simp [World.cell?, h]
structure Bx (w W : World) (k : Ky) (n : Int) (v : Value) : Prop where
 bel : Below w.heap.size w W
 sz : W.heap.size = w.heap.size + 2
 bk : W.heap[w.heap.size]? = some (.cells #[.int .i64 k.1, .string k.2] 124 (0, 0))
 bc : aH W (w.heap.size + 1) n v
theorem bx_ok (w : World) (k : Ky) (n : Int) (v : Value) : Bx w ((w.alloc (.cells #[.int .i64 k.1, .string k.2] 124)).alloc (.cells #[.int .i64 n, v] 127)) k n v := by
 have st : ∀ (W : World) (o : Obj), Below W.heap.size W (W.alloc o) := fun W o => (Below.refl _ _).alloc (Nat.le_refl _) _
 refine ⟨ag (st _ _) (st _ _), by simp, ?_, ?_⟩
 ·rw [(st _ _).block _ (by simp)]
  exact heap_alloc_new w _
 ·have := aH.new (w.alloc (.cells #[.int .i64 k.1, .string k.2] 124)) n v
  simpa using this
theorem keep_map {W W' : World} {mp n : Nat} {D : DataW Value} (hom : W.ownsMap Tryz.prog 124 RC mp n D) (hg : W.grownBy W' (some mp)) : dR W W' := by
 obtain ⟨es, clock, hb, _⟩ := hom
 refine dR.grown hg fun g cur e hh => ?_
 injection e with e
 subst e
 rw [hb] at hh
 cases hh
theorem km.put {W W' : World} {base gp mp n : Nat} {agg bound : Int} {st st' : List Rw} {bad : Int} {D : DataW Value} {x : Ky} {c : Cl} {s : Sl} (h : km W base gp mp agg bound st bad n) (hom : W.ownsMap Tryz.prog 124 RC mp n D) (hmc : gD W base D st)
  (hom' : W'.ownsMap Tryz.prog 124 RC mp (n + 1) (D.put (ep x) (.held (dE c.1 s)))) (hg : W.grownBy W' (some mp)) (hx : eI x) (hs : ay W base (dD s) c.2)
  (hlen : st'.length = if (aC st x).isSome then st.length else st.length + 1) (hl : ∀ y, aC st' y = if y = x then some c else aC st y) : km W' base gp mp agg bound st' bad (n + 1) ∧ gp ≠ mp := by
 have hk := keep_map hom hg
 have hne : gp ≠ mp := by
  obtain ⟨es, clock, hb, _⟩ := hom
  intro e
  subst e
  rw [h.gb] at hb
  cases hb
 refine ⟨⟨(hg.block gp (Array.getElem?_eq_some_iff.1 h.gb).1 (fun e => hne (by injection e))).trans h.gb, ⟨_, hom', (hmc.keep hk).put hx (hs.keep hk) hlen hl⟩, h.hg, h.hm⟩, hne⟩
theorem add_new (gp mp base n : Nat) (agg bound : Int) (st : List Rw) (bad : Int) (k : Ky) (c : Cl) (a : Option Addr) (cap : Nat) (w : World) (h : km w base gp mp agg bound st bad n) (hb : base ≤ w.heap.size) (hn : n < 1000000)
  (hk : eI k) (hc : NS w (.slice a c.2.length cap) c.2) (hl : c.2.length ≤ 32) (hlook : aC st k = none) (hr : aZ st) :
  Calls Tryz.prog 133 #[.pointer (some ⟨gp, 0, none⟩), iy k, .agg #[.int .i64 c.1, .slice a c.2.length cap]] w fun e w' =>
   e = .returned (.tuple #[]) ∧ km w' base gp mp agg bound (bZ (am agg bound.toNat) k c st).1 bad (n + 1) ∧ Below base w w' := by
 obtain ⟨D, hom, hmc⟩ := h.mo
 obtain ⟨ka, kb⟩ := k
 obtain ⟨c1, c2⟩ := c
 have hno := hmc.non _ hk hlook
 simp only at hc hl ⊢
 simp only [iy]
 obtain ⟨W0, hW0⟩ : ∃ W0 : World, W0 = (w.alloc (.cells #[.int .i64 ka, .string kb] 124)).alloc (.cells #[.int .i64 c1, .slice a c2.length cap] 127) := ⟨_, rfl⟩
 have hbx : Bx w W0 (ka, kb) c1 (.slice a c2.length cap) := by rw [hW0]; exact bx_ok w (ka, kb) _ _
 obtain ⟨hb0, hs0, bk, bc⟩ := hbx
 obtain ⟨k0, k1⟩ := blk2 bk
 obtain ⟨l0, l1, -, -⟩ := bc.cells
 have h0 := h.below hb0
 obtain ⟨g0, g1, g2, g3, g4⟩ := h0.cells
 obtain ⟨D0, hom0, hmc0⟩ := h0.mo
 have hno0 := hmc0.non _ hk hlook
 obtain ⟨Wz, hWz⟩ : ∃ Wz : World, Wz = W0.alloc (.cells #[.int .i64 0, .slice none 0 0] 127) := ⟨_, rfl⟩
 have hbz : Below W0.heap.size W0 Wz := by rw [hWz]; exact (Below.refl _ _).alloc (Nat.le_refl _) _
 have hz := h0.below hbz
 obtain ⟨y0, y1, y2, y3, y4⟩ := hz.cells
 obtain ⟨Dz, homz, hmcz⟩ := hz.mo
 have kz0 : Wz.cell? ⟨w.heap.size, 0, none⟩ = _ := (hbz.cell (p := ⟨w.heap.size, 0, none⟩) (by show w.heap.size < _; omega)).trans k0
 have kz1 : Wz.cell? ⟨w.heap.size, 1, none⟩ = _ := (hbz.cell (p := ⟨w.heap.size, 1, none⟩) (by show w.heap.size < _; omega)).trans k1
 have lz0 : Wz.cell? ⟨w.heap.size + 1, 0, none⟩ = _ := (hbz.cell (p := ⟨w.heap.size + 1, 0, none⟩) (by show w.heap.size + 1 < _; omega)).trans l0
 have lz1 : Wz.cell? ⟨w.heap.size + 1, 1, none⟩ = _ := (hbz.cell (p := ⟨w.heap.size + 1, 1, none⟩) (by show w.heap.size + 1 < _; omega)).trans l1
 have r1 := look_no hom0.drew hk hno0
 have r2 := look_no homz.drew hk (hmcz.non _ hk hlook)
 rw [hWz] at r2
 simp only [iy] at r1 r2
 have HW := ae hW0.symm
 have HZ := ae hWz.symm
 have Y := ae (And.intro y2 (And.intro kz0 kz1))
 have hbz' : Below w.heap.size w Wz := ag hb0 hbz
 obtain ⟨v2, W2, q1, q2, q3, -⟩ := ii (W := Wz.drew.drew) (base := base) 125 (ay.nil Wz.drew.drew base) (hc.below hbz'.drew.drew) (by simp; omega) (by have := hbz'.size; show base ≤ Wz.heap.size; omega)
 rw [List.nil_append] at q2
 obtain ⟨s2a, s2c, rfl⟩ := q2.shape
 have hb2 : Below Wz.heap.size Wz W2 := ((Below.refl Wz.heap.size Wz).drew.drew).grown q3 (Nat.le_refl _) (fun k hk => by cases hk)
 have hz2 := hz.below hb2
 obtain ⟨D2, hom2, hmc2⟩ := hz2.mo
 obtain ⟨W3, q4, hom3, q5⟩ := hom2.update law Tryz.underlying253 (by unfold maxLen; omega) (fV hk) (show RC (dE c1 (s2a, c2.length, s2c)) = some (.held (dE c1 (s2a, c2.length, s2c)), []) from rfl)
 obtain ⟨hG3, hne⟩ := hz2.put (st' := (bZ (am agg bound.toNat) (ka, kb) (c1, c2) st).1) (c := (c1, c2)) (s := (s2a, c2.length, s2c)) hom2 hmc2 hom3 q5 hk q2 (eG hr) (fun y => by rw [cR hr, hlook]; rfl)
 have hmlt : mp < w.heap.size := hom.lt
 have hglt : gp < w.heap.size := (Array.getElem?_eq_some_iff.1 h.gb).1
 have hb3 : Below base w W3 := ((ag hbz' hb2).mono hb).grown q5 (by have := (ag hbz' hb2).size; omega) (fun k hk => by injection hk with hk; subst hk; exact h.hm)
 have far : ∀ b o : Nat, b < W2.heap.size → b ≠ mp → W3.cell? ⟨b, o, none⟩ = W2.cell? ⟨b, o, none⟩ := fun b o hlt hn => q5.cell_far ⟨b, o, none⟩ hlt (fun e => hn (by injection e))
 have Q1 := ae q1
 have Y2 := ae (show W2.cell? ⟨gp, 2, none⟩ = some (.map (some mp)) ∧ W2.cell? ⟨w.heap.size, 0, none⟩ = some (.int .i64 ka) ∧ W2.cell? ⟨w.heap.size, 1, none⟩ = some (.string kb) ∧ W2.cell? ⟨w.heap.size + 1, 0, none⟩ = some (.int .i64 c1) ∧ W2.cell? ⟨w.heap.size + 1, 1, none⟩ = some (.slice a c2.length cap) from
  have hsz := hbz.size
  ⟨hz2.cells.2.2.1, (hb2.cell (p := ⟨w.heap.size, 0, none⟩) (by show w.heap.size < _; omega)).trans kz0, (hb2.cell (p := ⟨w.heap.size, 1, none⟩) (by show w.heap.size < _; omega)).trans kz1, (hb2.cell (p := ⟨w.heap.size + 1, 0, none⟩) (by show w.heap.size + 1 < _; omega)).trans lz0, (hb2.cell (p := ⟨w.heap.size + 1, 1, none⟩) (by show w.heap.size + 1 < _; omega)).trans lz1⟩)
 have Y3 := ae (show W3.cell? ⟨gp, 2, none⟩ = some (.map (some mp)) ∧ W3.cell? ⟨w.heap.size, 0, none⟩ = some (.int .i64 ka) ∧ W3.cell? ⟨w.heap.size, 1, none⟩ = some (.string kb) ∧ W3.cell? ⟨w.heap.size + 1, 0, none⟩ = some (.int .i64 c1) ∧ W3.cell? ⟨w.heap.size + 1, 1, none⟩ = some (.slice a c2.length cap) from
  have hsz := hbz.size
  have hsz2 := hb2.size
  ⟨(far _ _ (by omega) hne).trans Y2.out.1, (far _ _ (by omega) (by omega)).trans Y2.out.2.1, (far _ _ (by omega) (by omega)).trans Y2.out.2.2.1, (far _ _ (by omega) (by omega)).trans Y2.out.2.2.2.1, (far _ _ (by omega) (by omega)).trans Y2.out.2.2.2.2⟩)
 have FIN := ae (And.intro hG3 hb3)
 clear hW0 hWz q1 far hG3 hb3 q5 hom3 hmc2 hom2 q2 q3 hmcz homz hmc0 hom0 hom hmc hz2 hz h0
 go_enter Tryz.func133, Tryz.ntmps133
 go_wp2_with fail
 rw [HW.out]
 go_region_held3 (fun W' => W'.cell? ⟨gp, 2, none⟩ = some (.map (some mp)) ∧ W'.cell? ⟨w.heap.size, 0, none⟩ = some (.int .i64 ka) ∧ W'.cell? ⟨w.heap.size, 1, none⟩ = some (.string kb))
  (first | exact ⟨g2, k0, k1⟩ | (rw [HZ.out]; exact Y.out))
  (fail)
 all_goals
  rw [HZ.out]
  go_wp2_with fail
  go_region_held3 (fun W' => W'.cell? ⟨gp, 2, none⟩ = some (.map (some mp)) ∧ W'.cell? ⟨w.heap.size, 0, none⟩ = some (.int .i64 ka) ∧ W'.cell? ⟨w.heap.size, 1, none⟩ = some (.string kb) ∧ W'.cell? ⟨w.heap.size + 1, 0, none⟩ = some (.int .i64 c1) ∧ W'.cell? ⟨w.heap.size + 1, 1, none⟩ = some (.slice a c2.length cap))
   (first | exact ⟨y2, kz0, kz1, lz0, lz1⟩ | exact Y2.out | exact Y3.out)
   (refine aL _ (by rfl) _ _ _ (by rfl) _ _ _ W2 (by rfl) (by rfl) Q1.out ?_)
  all_goals
   go_wp2
   refine bodyPost_ret (results_none rfl _ _ _) rfl ?_
   exact ⟨rfl, FIN.out⟩
end Go.Proofs.YtclcgakfmcofaaaGreatDoor
namespace Go.Proofs.YtclcgakfmcofaaaGreatDoor
open Go.RowKit
theorem oa {ops : Array Oper} {rest : List Oper} {o : Oper} {a : Act} {Q : Exit → Act → World → Prop} {W : World} {base : Nat} {v : Value} {l : List Int} {x : Int} (hgd : o.guard = none) (s xo : Operand)
  (ho : o.op = .call { callee := .builtin .append, args := #[s, xo], argTypes := #[125, 125] }) (hs : a.eval s = v) (hx : a.eval xo = .slice (some ⟨W.heap.size, 0, none⟩) 1 1)
  (hown : ay W base v l) (hl : l.length ≤ 1000000) (hb : base ≤ W.heap.size)
  (h : ∀ v' W', ay W' base v' (l ++ [x]) → (∀ w0, Below base w0 W → Below base w0 W') → wpList Tryz.prog ops Q rest (a.put o.dst v') W') : wpList Tryz.prog ops Q (o :: rest) a (W.alloc (.cells #[.int .i64 x] 2)) := by
 obtain ⟨i0, hi, hz0, hz1, hz2⟩ := info_parts Tryz.info2
 refine wpList_append_own_at _ hgd s xo 125 ho base 2 i0 _ 1 8 Tryz.underlying125 hi hz0 hz1 hz2 rfl (by decide) v l.length (l.map (Value.int .i64)) hs (hown.alloc _) ⟨W.heap.size, 0, none⟩ 1 1 [.int .i64 x] hx rfl (cell_one_new _ _ _) (by simp [Value.oneCell']) (by unfold maxLen; omega) (by omega) (by simp; omega) ?_
 intro v' w1 h1 h2 _ _
 refine h v' w1 (ay.snoc h1 rfl) fun w0 hw => ?_
 exact (hw.alloc hb _).grown h2 (by simp; omega) (aW hown)
theorem jw_num (w : World) (a b : Cl) (va vb : Value) (n : Int) : aH (((w.alloc (.cells #[.int .i64 a.1, va] 127)).alloc (.cells #[.int .i64 b.1, vb] 127)).alloc (.cells #[.int .i64 n, .slice none 0 0] 127)) (w.heap.size + 1 + 1) n (.slice none 0 0) ∧
  Below w.heap.size w (((w.alloc (.cells #[.int .i64 a.1, va] 127)).alloc (.cells #[.int .i64 b.1, vb] 127)).alloc (.cells #[.int .i64 n, .slice none 0 0] 127)) := by
 have n3 := aH.new ((w.alloc (.cells #[.int .i64 a.1, va] 127)).alloc (.cells #[.int .i64 b.1, vb] 127)) n (.slice none 0 0)
 have st : ∀ (W : World) (o : Obj), Below W.heap.size W (W.alloc o) := fun W o => (Below.refl _ _).alloc (Nat.le_refl _) _
 exact ⟨by simpa using n3, ag (ag (st _ _) (st _ _)) (st _ _)⟩
theorem rjoinN_any (agg : Int) (bd : Int) (va vb : Value) (a b : Cl) (w : World) (ha : CS w va a) (hb : CS w vb b) (wa : WfC a) (wb : WfC b) (h1 : 1 ≤ agg) (h5 : agg ≤ 5) (pa : nP agg a.1) (pb : nP agg b.1) :
  Calls Tryz.prog 144 #[.int .i64 agg, .int .i64 bd, va, vb] w (fE w (nF agg a.1 b.1, []) 0) := by
 obtain ⟨aa, ca, rfl, na⟩ := ha
 obtain ⟨ab, cb, rfl, nb⟩ := hb
 clear na nb
 obtain ⟨wa1, wa2⟩ := wa.1
 obtain ⟨wb1, wb2⟩ := wb.1
 have FIN := ae (fun n => jw_num w a b (.slice aa a.2.length ca) (.slice ab b.2.length cb) n)
 clear wa wb
 obtain ⟨na, la⟩ := a
 obtain ⟨nb, lb⟩ := b
 simp only at *
 have hk : agg = 1 ∨ agg = 2 ∨ agg = 3 ∨ agg = 4 ∨ agg = 5 := by omega
 rcases hk with rfl | rfl | rfl | rfl | rfl
 ·show Calls _ _ _ _ (fE w (wrap64 (na + nb), []) 0)
  clear pa pb h1 h5
  go_enter Tryz.func144, Tryz.ntmps144
  go_wp2
  exact bodyPost_ret (ar rfl rfl (FIN.out _).1.load) rfl ⟨⟨_, rfl, iQ.num _ _ _⟩, (FIN.out _).2⟩
 ·obtain ⟨a0, a1⟩ := pa rfl
  obtain ⟨b0, b1⟩ := pb rfl
  show Calls _ _ _ _ (fE w (kr na nb, []) 0)
  unfold kr
  by_cases hlt : 4611686018427387904 - nb < na
  ·rw [if_pos hlt]
   go_enter Tryz.func144, Tryz.ntmps144
   go_wp2
   exact bodyPost_ret (ar rfl rfl (FIN.out _).1.load) rfl ⟨⟨_, rfl, iQ.num _ _ _⟩, (FIN.out _).2⟩
  ·rw [if_neg hlt]
   go_enter Tryz.func144, Tryz.ntmps144
   go_wp2
   exact bodyPost_ret (ar rfl rfl (FIN.out _).1.load) rfl ⟨⟨_, rfl, iQ.num _ _ _⟩, (FIN.out _).2⟩
 ·show Calls _ _ _ _ (fE w (min na nb, []) 0)
  clear pa pb h1 h5
  go_enter Tryz.func144, Tryz.ntmps144
  go_wp2
  exact bodyPost_ret (ar rfl rfl (FIN.out _).1.load) rfl ⟨⟨_, rfl, iQ.num _ _ _⟩, (FIN.out _).2⟩
 ·show Calls _ _ _ _ (fE w (max na nb, []) 0)
  clear pa pb h1 h5
  go_enter Tryz.func144, Tryz.ntmps144
  go_wp2
  exact bodyPost_ret (ar rfl rfl (FIN.out _).1.load) rfl ⟨⟨_, rfl, iQ.num _ _ _⟩, (FIN.out _).2⟩
 ·show Calls _ _ _ _ (fE w (bits .or .i64 na nb, []) 0)
  clear pa pb h1 h5
  go_enter Tryz.func144, Tryz.ntmps144
  go_wp2
  exact bodyPost_ret (ar rfl rfl (FIN.out _).1.load) rfl ⟨⟨_, rfl, iQ.num _ _ _⟩, (FIN.out _).2⟩
structure MJR (W0 : World) (a b : List Int) (i k : Nat) (l : List Int) (v : Value) (W : World) : Prop where
 mj : MJ a b i k l
 own : ay W W0.heap.size v l
 bel : Below W0.heap.size W0 W
theorem MJR.len {W0 W : World} {a b l : List Int} {i k : Nat} {v : Value} (h : MJR W0 a b i k l v W) (hi : i ≤ 50000) (hk : k ≤ 50000) : l.length ≤ 1000000 := by have := h.mj.len; omega
theorem MJR.drew {W0 W : World} {a b l : List Int} {i k : Nat} {v : Value} (h : MJR W0 a b i k l v W) (q : Nat) : ay (W.drewN q) W0.heap.size v l ∧ Below W0.heap.size W0 (W.drewN q) := ⟨h.own, h.bel.trans ((ec.refl W).step q |>.below _)⟩
theorem rjoinS_any (bd : Nat) (va vb : Value) (a b : Cl) (w : World) (ha : CS w va a) (hb : CS w vb b) (ra : bl a.2) (rb : bl b.2) (hla : a.2.length ≤ 50000) (hlb : b.2.length ≤ 50000) :
  Calls Tryz.prog 144 #[.int .i64 6, .int .i64 (bd : Int), va, vb] w (fE w (gA bd a.2 b.2).1 (gA bd a.2 b.2).2) := by
 obtain ⟨aa, ca, rfl, na⟩ := ha
 obtain ⟨ab, cb, rfl, nb⟩ := hb
 obtain ⟨W, hW⟩ : ∃ W : World, W = jw w a b (.slice aa a.2.length ca) (.slice ab b.2.length cb) := ⟨_, rfl⟩
 have hJ : JW w W a b (.slice aa a.2.length ca) (.slice ab b.2.length cb) := by rw [hW]; exact jw_ok _ _ _ _ _
 have na1 := na.below hJ.bel
 have nb1 := nb.below hJ.bel
 have HJ := ae hJ
 have HW := ae (show ((w.alloc (.cells #[.int .i64 a.1, .slice aa a.2.length ca] 127)).alloc (.cells #[.int .i64 b.1, .slice ab b.2.length cb] 127)).alloc (.cells #[.int .i64 0, .slice none 0 0] 127) = W from hW.symm)
 obtain ⟨na, la⟩ := a
 obtain ⟨nb, lb⟩ := b
 simp only at *
 have HA := ae (show ∀ i x, la[i]? = some x → ∃ p o, aa = some ⟨p, o, none⟩ ∧ ∀ W', Below W.heap.size W W' → W'.cell? ⟨p, o + i, none⟩ = some (.int .i64 x) from fun i x hx => by
  obtain ⟨a', c', e, h⟩ := na1
  injection e with e1 e2 e3
  subst e1 e3
  rcases h with rfl | ⟨p, o, rfl, hp, hat⟩
  ·simp at hx
  ·exact ⟨p, o, rfl, fun W' hW' => hat.below hW' hp i x hx⟩)
 have HN := ae (show ∀ i x, lb[i]? = some x → ∃ p o, ab = some ⟨p, o, none⟩ ∧ ∀ W', Below W.heap.size W W' → W'.cell? ⟨p, o + i, none⟩ = some (.int .i64 x) from fun i x hx => by
  obtain ⟨a', c', e, h⟩ := nb1
  injection e with e1 e2 e3
  subst e1 e3
  rcases h with rfl | ⟨p, o, rfl, hp, hat⟩
  ·simp at hx
  ·exact ⟨p, o, rfl, fun W' hW' => hat.below hW' hp i x hx⟩)
 have hsz := hJ.sz
 clear hJ hW na1 nb1
 obtain ⟨ka, hka⟩ : ∃ ka, la.length = ka := ⟨_, rfl⟩
 obtain ⟨kb, hkb⟩ : ∃ kb, lb.length = kb := ⟨_, rfl⟩
 rw [hka] at hla HJ HW ⊢
 rw [hkb] at hlb HJ HW ⊢
 obtain ⟨res, hres⟩ : ∃ res, gA bd la lb = res := ⟨_, rfl⟩
 rw [hres]
 have HRES := ae hres
 have HRA := ae ra
 have HRB := ae rb
 have HKA := ae hka
 have HKB := ae hkb
 have HSZ := ae hsz
 clear hres ra rb hka hkb hsz
 go_enter Tryz.func144, Tryz.ntmps144
 go_wp2
 rw [HW.out]
 go_loopw [10, 11, 12] (fun v i k wr => ∃ (x y : Nat) (l : List Int), x ≤ ka ∧ y ≤ kb ∧ i = .int .i64 (x : Int) ∧ k = .int .i64 (y : Int) ∧ Hid (MJR W la lb x y l v wr)) (fun _ i k _ => ka + kb - (intOf i).toNat - (intOf k).toNat)
 case atStart => exact ⟨0, 0, [], by omega, by omega, rfl, rfl, MJ.start _ _, ay.nil _ _, Below.refl _ _⟩
 case round =>
  obtain ⟨x, y, l, hx, hy, rfl, rfl, HM⟩ := hrel
  obtain ⟨b3, ba3, bb3, br3, sz3⟩ := HJ.out.next HM.out.bel
  obtain ⟨a0, a1, -, -⟩ := ba3.cells
  obtain ⟨e0, e1, -, -⟩ := bb3.cells
  have HX := ae hx
  have HY := ae hy
  by_cases hxa : x < ka
  ·obtain ⟨u, hu⟩ := ak (l := la) (i := x) (by have := HKA.out; omega)
   obtain ⟨p, o, rfl, hcu⟩ := HA.out x u hu
   have c0 := hcu _ HM.out.bel
   have HU := ae hu
   clear hu hcu
   have hx0 : (0 : Int) ≤ x := by omega
   have hxk : (x : Int) < ka := by omega
   by_cases hyb : y < kb
   ·obtain ⟨z, hz⟩ := ak (l := lb) (i := y) (by have := HKB.out; omega)
    obtain ⟨p', o', rfl, hcz⟩ := HN.out y z hz
    have c1 := hcz _ HM.out.bel
    have HZ := ae hz
    clear hz hcz
    have hy0 : (0 : Int) ≤ y := by omega
    have hyk : (y : Int) < kb := by omega
    have hne : ((y : Int) == kb) = false := by simp; omega
    by_cases h1 : u < z
    ·go_wp2
     go_quiet (fail)
     go_wp2_with (at_builtin; refine oa rfl _ _ rfl rfl rfl (HM.out.drew _).1 (HM.out.len (by omega) (by omega)) HM.out.bel.size ?_; intro v' W' ho' hb')
     go_roundw
     case rel => exact ⟨x + 1, y, _, by omega, by omega, by go_num, rfl, HM.out.mj.left HRA.out HRB.out HU.out (.inr ⟨z, HZ.out, h1⟩), ho', hb' _ (HM.out.drew _).2⟩
     case measure => simp [intOf]; omega
    ·by_cases h2 : z < u
     ·have hnx : ((x : Int) == ka) = false := by simp; omega
      go_wp2
      go_quiet (fail)
      go_wp2
      go_quiet (fail)
      go_wp2_with (at_builtin; refine oa rfl _ _ rfl rfl rfl (HM.out.drew _).1 (HM.out.len (by omega) (by omega)) HM.out.bel.size ?_; intro v' W' ho' hb')
      go_roundw
      case rel => exact ⟨x, y + 1, _, by omega, by omega, rfl, by go_num, HM.out.mj.right HRA.out HRB.out HZ.out (.inr ⟨u, HU.out, h2⟩), ho', hb' _ (HM.out.drew _).2⟩
      case measure => simp [intOf]; omega
     ·have hnx : ((x : Int) == ka) = false := by simp; omega
      obtain rfl : u = z := by omega
      go_wp2
      go_quiet (fail)
      go_wp2
      go_quiet (fail)
      go_wp2_with (at_builtin; refine oa rfl _ _ rfl rfl rfl (HM.out.drew _).1 (HM.out.len (by omega) (by omega)) HM.out.bel.size ?_; intro v' W' ho' hb')
      go_roundw
      case rel => exact ⟨x + 1, y + 1, _, by omega, by omega, by go_num, by go_num, HM.out.mj.both HRA.out HRB.out HU.out HZ.out, ho', hb' _ (HM.out.drew _).2⟩
      case measure => simp [intOf]; omega
   ·obtain rfl : y = kb := by omega
    go_wp2
    go_quiet (fail)
    go_wp2_with (at_builtin; refine oa rfl _ _ rfl rfl rfl (HM.out.drew _).1 (HM.out.len (by omega) (by omega)) HM.out.bel.size ?_; intro v' W' ho' hb')
    go_roundw
    case rel => exact ⟨x + 1, y, _, by omega, by omega, by go_num, rfl, HM.out.mj.left HRA.out HRB.out HU.out (.inl (Nat.le_of_eq HKB.out)), ho', hb' _ (HM.out.drew _).2⟩
    case measure => simp [intOf]; omega
  ·obtain rfl : x = ka := by omega
   by_cases hyb : y < kb
   ·obtain ⟨z, hz⟩ := ak (l := lb) (i := y) (by have := HKB.out; omega)
    obtain ⟨p', o', rfl, hcz⟩ := HN.out y z hz
    have c1 := hcz _ HM.out.bel
    have HZ := ae hz
    clear hz hcz
    have hy0 : (0 : Int) ≤ y := by omega
    have hyk : (y : Int) < kb := by omega
    have hne : ((y : Int) == kb) = false := by simp; omega
    go_wp2
    go_quiet (fail)
    go_wp2
    go_quiet (fail)
    go_wp2_with (at_builtin; refine oa rfl _ _ rfl rfl rfl (HM.out.drew _).1 (HM.out.len (by omega) (by omega)) HM.out.bel.size ?_; intro v' W' ho' hb')
    go_roundw
    case rel => exact ⟨x, y + 1, _, by omega, by omega, rfl, by go_num, HM.out.mj.right HRA.out HRB.out HZ.out (.inl (Nat.le_of_eq HKA.out)), ho', hb' _ (HM.out.drew _).2⟩
    case measure => simp [intOf]; omega
   ·obtain rfl : y = kb := by omega
    have hl : l = uni la lb := HM.out.mj.done (Nat.le_of_eq HKA.out) (Nat.le_of_eq HKB.out) HRB.out
    have hr := HRES.out
    unfold gA at hr
    rw [← hl] at hr
    obtain ⟨b4, k0, k1, p0⟩ := br3.cells
    obtain ⟨-, k1', -, p1'⟩ := (br3.set0 0).cells
    have hown := HM.out.own
    obtain ⟨a5, c5, rfl⟩ := hown.shape
    have HOWN := ae hown
    clear hl hown
    by_cases hle : l.length ≤ bd
    ·rw [if_pos hle] at hr
     subst hr
     go_wp2
     exact bodyPost_ret (ar rfl rfl br3.set.load) rfl ⟨⟨_, rfl, _, _, rfl, (fW (b := w.heap.size + 1 + 1) HOWN.out (by have := HSZ.out; omega) _ _).lower (base' := w.heap.size) (by have := HSZ.out; omega)⟩, bN (b := w.heap.size + 1 + 1) b3 (by omega) _ _⟩
    ·rw [if_neg hle] at hr
     subst hr
     go_wp2
     exact bodyPost_ret (ar rfl rfl br3.set.load) rfl ⟨⟨_, rfl, iQ.num _ _ _⟩, bN (b := w.heap.size + 1 + 1) b3 (by omega) _ _⟩
theorem aH.set1 {W : World} {b : Nat} {n : Int} (u : Value) {v : Value} (h : aH W b n v) : aH (W.setCell ⟨b, 1, none⟩ u) b n u := by
 unfold aH at h ⊢
 simp only [World.setCell, Array.getElem?_modify, h]
 simp
theorem bE {w W : World} {b o : Nat} (h : Below w.heap.size w W) (hb : w.heap.size ≤ b) (u : Value) : Below w.heap.size w (W.setCell ⟨b, o, none⟩ u) := by
 refine ⟨h.os, h.tape, h.output, by simp [World.setCell]; exact h.size, fun k hk => ?_⟩
 rw [Below.heap_setCell _ _ _ _ (by show k ≠ b; omega)]
 exact h.block k hk
theorem cv {W : World} {base b o : Nat} {v : Value} {l : List Int} (h : ay W base v l) (hb : b < base) (u : Value) : ay (W.setCell ⟨b, o, none⟩ u) base v l :=
 h.kept (aq _ _ _ _) (.inr fun e => by have := aW h b e; omega)
theorem ob : ∀ (l : List Int) (x : Int), nH (l ++ [x]) = nH l ++ bytesOf x
 | [], x => by
  show bytesOf x ++ (⟨#[]⟩ : ByteArray) = (⟨#[]⟩ : ByteArray) ++ bytesOf x
  apply bT
  simp [ByteArray.data_append]
 | y :: l, x => by
  show bytesOf y ++ nH (l ++ [x]) = bytesOf y ++ nH l ++ bytesOf x
  rw [ob l x, ByteArray.append_assoc]
theorem mv : ∀ (l : List Int), (nH l).size ≤ 10 * l.length
 | [] => Nat.zero_le _
 | x :: l => by
  have := mv l
  have := aN x
  rw [nH, ByteArray.size_append, List.length_cons]
  omega
def iS (n : Nat) (l : List Int) (k : Nat) : ByteArray := bytesOf (n : Int) ++ nH (l.take k)
theorem oc {n : Nat} {l : List Int} {k : Nat} {x : Int} (hx : l[k]? = some x) : iS n l k ++ bytesOf x = iS n l (k + 1) := by
 unfold iS
 rw [fC hx, ob, ByteArray.append_assoc]
theorem od (n : Nat) (l : List Int) : iS n l 0 = bytesOf (n : Int) := by
 unfold iS
 show bytesOf (n : Int) ++ (⟨#[]⟩ : ByteArray) = _
 apply bT
 simp [ByteArray.data_append]
theorem byTo_end {n : Nat} {l : List Int} {k : Nat} (hk : l.length ≤ k) : iS n l k = bytesOf (n : Int) ++ nH l := by unfold iS; rw [List.take_of_length_le hk]
theorem byTo_len {n : Nat} {l : List Int} {k : Nat} : (iS n l k).size ≤ 10 + 10 * l.length := by
 unfold iS
 rw [ByteArray.size_append]
 have := aN (n : Int)
 have := mv (l.take k)
 have : (l.take k).length ≤ l.length := by rw [List.length_take]; omega
 omega
def bytesR (agg bound : Int) (c : Cl) : ByteArray × Int := if fd agg bound c then (ci agg c, 0) else (⟨#[]⟩, 1)
abbrev ByR (w : World) (r : ByteArray × Int) : Ending → World → Prop := fun e w' => e = .returned (.tuple #[.string r.1, .int .i64 r.2]) ∧ Below w.heap.size w w'
theorem cbytes_any (agg bound : Int) (v : Value) (c : Cl) (w : World) (h : CS w v c) (hc : WfC c) (hl : c.2.length ≤ 50000) :
  Calls Tryz.prog 169 #[.int .i64 agg, .int .i64 bound, v] w (ByR w (bytesR agg bound c)) := by
 obtain ⟨a, cap, rfl, hn⟩ := h
 obtain ⟨W, hW⟩ : ∃ W : World, w.alloc (.cells #[.int .i64 c.1, .slice a c.2.length cap] 127) = W := ⟨_, rfl⟩
 have hb0 : Below w.heap.size w W := by rw [← hW]; exact (Below.refl w.heap.size w).alloc (Nat.le_refl _) _
 have hB : aH W w.heap.size c.1 (.slice a c.2.length cap) := by rw [← hW]; exact aH.new w c.1 _
 have hn1 := hn.below hb0
 have H1 := ae (eB agg bound _ c W ⟨a, cap, rfl, hn1⟩ (by omega))
 have HW := ae hW
 have HB := ae hB
 have HL := ae hb0
 have NX := ae (fun W' (h : Below W.heap.size W W') => ag hb0 h)
 unfold bytesR
 cases hch : fd agg bound c with
 | false =>
  rw [hch, show iz false = 1 from rfl] at H1
  simp only [Bool.false_eq_true, if_false]
  clear hn hn1 hb0 hB hW
  go_enter Tryz.func169, Tryz.ntmps169
  go_wp2_with (go_at_call 80; rw [HW.out]; refine H1.out.mono ?_; rintro e W2 ⟨rfl, hb2⟩)
  go_ret2
  exact ⟨rfl, NX.out _ hb2⟩
 | true =>
  rw [hch, show iz true = 0 from rfl] at H1
  simp only [if_true]
  obtain ⟨hw, hm⟩ := fX hch
  clear hch
  by_cases h6 : agg = 6
  ·subst h6
   rw [show ci 6 c = iS c.2.length c.2 c.2.length by unfold ci; rw [if_pos rfl, byTo_end (Nat.le_refl _)]]
   have H2 := ae (fun W' => ie (c.2.length : Int) W' (by omega) (by omega))
   have H3 := ae (fun x (hx : x ∈ c.2) W' => ie x W' (hc.2 x hx).1 (hc.2 x hx).2)
   have HA := ae (show ∀ i x, c.2[i]? = some x → ∃ p o, a = some ⟨p, o, none⟩ ∧ ∀ W', Below W.heap.size W W' → W'.cell? ⟨p, o + i, none⟩ = some (.int .i64 x) from fun i x hx => by
    obtain ⟨a', c', e, h⟩ := hn1
    injection e with e1 e2 e3
    subst e1 e3
    rcases h with e | ⟨p, o, rfl, hp, hat⟩
    ·rw [e] at hx; simp at hx
    ·exact ⟨p, o, rfl, fun W' hW' => hat.below hW' hp i x hx⟩)
   have HZ := ae (fun k => byTo_len (n := c.2.length) (l := c.2) (k := k))
   clear hn hn1 hb0 hB hm hw hW hc
   obtain ⟨n, l⟩ := c
   simp only at *
   obtain ⟨m, hm⟩ : ∃ m, l.length = m := ⟨_, rfl⟩
   rw [hm] at H1 H2 HW HB HZ hl ⊢
   have HM := ae hm
   clear hm
   go_enter Tryz.func169, Tryz.ntmps169
   go_wp2_with (go_at_call 80; rw [HW.out]; refine H1.out.mono ?_; rintro e W2 ⟨rfl, hb2⟩; obtain ⟨c0, c1, -, -⟩ := (HB.out.below hb2).cells)
   go_wp2_with (go_at_call 75; refine (H2.out _).mono ?_; rintro e W3 ⟨rfl, hb3⟩; have hb3' := ag hb2 hb3; obtain ⟨d0, d1, -, -⟩ := (HB.out.below hb3').cells)
   rw [← od m l]
   go_loopw [9, 31] (fun s i wr => ∃ k : Nat, k ≤ m ∧ i = .int .i64 (k : Int) ∧ s = .string (iS m l k) ∧ Below W.heap.size W wr) (fun _ i _ => m - (intOf i).toNat)
   case atStart => exact ⟨0, by omega, rfl, rfl, hb3'⟩
   case round =>
    obtain ⟨k, hk, rfl, rfl, hbk⟩ := hrel
    by_cases hlt : k < m
    ·obtain ⟨x, hx⟩ := ak (l := l) (i := k) (by have := HM.out; omega)
     obtain ⟨p, o, rfl, hc⟩ := HA.out k x hx
     have c5 := hc _ hbk
     have H3' := ae (H3.out x (List.mem_of_getElem? hx) wr)
     have HS := ae (oc (n := m) hx)
     have z1 := HZ.out k
     have z2 := aN x
     clear hx hc
     have hk0 : (0 : Int) ≤ k := by omega
     have hkl : (k : Int) < m := by omega
     generalize bytesOf x = bx at *
     generalize hby : iS m l k = by0 at *
     go_wp2_with (go_at_call 75; refine H3'.out.mono ?_; rintro e W4 ⟨rfl, hb4⟩)
     go_roundw
     case rel => exact ⟨k + 1, by omega, by go_num, by rw [HS.out], ag hbk hb4⟩
     case measure => simp [intOf]; omega
    ·obtain rfl : k = m := by omega
     go_wp2
     go_ret2
     exact ⟨rfl, NX.out _ hbk⟩
  ·have h6' : (agg != 6) = true := by simpa using h6
   have h6'' : (agg == 6) = false := by simpa using h6
   rw [show ci agg c = bytesOf c.1 by unfold ci; rw [if_neg h6]]
   have H2 := ae (fun W' => ie c.1 W' hc.1.1 hc.1.2)
   clear hn hn1 hb0 hB hm hw hW
   go_enter Tryz.func169, Tryz.ntmps169
   go_wp2_with (go_at_call 80; rw [HW.out]; refine H1.out.mono ?_; rintro e W2 ⟨rfl, hb2⟩; obtain ⟨c0, c1, -, -⟩ := (HB.out.below hb2).cells)
   go_wp2_with (go_at_call 75; refine (H2.out _).mono ?_; rintro e W3 ⟨rfl, hb3⟩)
   go_ret2
   exact ⟨rfl, NX.out _ (ag hb2 hb3)⟩
theorem rjoin_any (agg bound : Int) (va vb : Value) (a b : Cl) (w : World) (ha : CS w va a) (hb : CS w vb b) (wa : WfC a) (wb : WfC b) (hla : a.2.length ≤ 50000) (hlb : b.2.length ≤ 50000) (ca : fd agg bound a = true) (cb : fd agg bound b = true) :
  Calls Tryz.prog 144 #[.int .i64 agg, .int .i64 bound, va, vb] w (fE w (eJ agg bound a b).1 (eJ agg bound a b).2) := by
 obtain ⟨hw, hma⟩ := fX ca
 obtain ⟨-, hmb⟩ := fX cb
 obtain ⟨g1, g6, gb, gb32, gb1⟩ := jH hw
 obtain ⟨bd, rfl⟩ := Int.eq_ofNat_of_zero_le gb
 rw [show eJ agg (bd : Int) a b = am agg bd a b by unfold eJ; rw [ca, cb]; simp]
 rw [Int.toNat_natCast] at hma hmb
 by_cases h6 : agg = 6
 ·subst h6
  rw [show am 6 bd a b = gA bd a.2 b.2 by unfold am gA; rw [if_pos rfl]]
  exact rjoinS_any bd va vb a b w ha hb (jJ hma).2.1 (jJ hmb).2.1 hla hlb
 ·rw [show am agg bd a b = ((nF agg a.1 b.1, []), 0) by unfold am; rw [if_neg h6]]
  exact rjoinN_any agg bd va vb a b w ha hb wa wb g1 (by omega) (ij h6 hma).2 (ij h6 hmb).2
theorem mw : bw 0 := by unfold bw; decide
theorem chk_one {agg bound : Int} (v : Int) (hw : aJ agg bound = true) : fd agg bound (dt agg v) = true := by
 obtain ⟨g1, g6, gb, gb32, gb1⟩ := jH hw
 unfold fd
 rw [hw, Bool.true_and]
 by_cases h6 : agg = 6
 ·subst h6
  rw [show dt 6 v = (0, [v]) from rfl, may6]
  have : bl [v] := by simp [bl]
  simp only [List.length_singleton, decide_eq_true this, Bool.and_true]
  simp
  have := gb1 rfl
  omega
 ·unfold dt n1 gH
  rw [if_neg h6, if_neg h6]
  simp
  by_cases h2 : agg = 2
  ·exact .inr (by rw [if_pos h2]; decide)
  ·exact .inl h2
theorem wf_one {agg v : Int} (h : bw v) : WfC (dt agg v) ∧ (dt agg v).2.length ≤ 32 := by
 unfold dt
 by_cases h6 : agg = 6
 ·rw [if_pos h6]
  exact ⟨⟨mw, fun x hx => by simp at hx; subst hx; exact h⟩, by simp⟩
 ·rw [if_neg h6]
  refine ⟨⟨?_, fun x hx => by simp at hx⟩, by simp⟩
  unfold n1
  show bw (if agg = 2 then 1 else v)
  split
  ·unfold bw; decide
  ·exact h
theorem jK {agg bound : Int} {a b : Cl} (ca : fd agg bound a = true) (cb : fd agg bound b = true) : eJ agg bound a b = am agg bound.toNat a b := by unfold eJ; rw [ca, cb]; simp
theorem chk_join {agg bound : Int} {a b : Cl} (ca : fd agg bound a = true) (cb : fd agg bound b = true) (wa : WfC a) (wb : WfC b) :
  ((eJ agg bound a b).2 = 0 → fd agg bound (eJ agg bound a b).1 = true) ∧ WfC (eJ agg bound a b).1 ∧ (eJ agg bound a b).1.2.length ≤ 32 ∧ ((eJ agg bound a b).2 = 0 ∨ (eJ agg bound a b).2 = 11) := by
 rw [jK ca cb]
 obtain ⟨hw, hma⟩ := fX ca
 obtain ⟨-, hmb⟩ := fX cb
 obtain ⟨g1, g6, gb, gb32, gb1⟩ := jH hw
 unfold fd
 rw [hw]
 simp only [Bool.true_and]
 unfold am
 by_cases h6 : agg = 6
 ·subst h6
  rw [if_pos rfl]
  have hb := (jJ hmb).2.1
  by_cases hle : (uni a.2 b.2).length ≤ bound.toNat
  ·rw [if_pos hle]
   refine ⟨fun _ => ?_, ⟨mw, fun v hv => ?_⟩, by show (uni a.2 b.2).length ≤ 32; omega, .inl rfl⟩
   ·rw [may6]
    simp only [decide_eq_true (jt a.2 hb), decide_eq_true hle, Bool.and_true]
    rfl
   ·have hv' : v ∈ uni a.2 b.2 := hv
    rw [lR] at hv'
    rcases hv' with h | h
    ·exact wa.2 v h
    ·exact wb.2 v h
  ·rw [if_neg hle]
   exact ⟨fun h => by simp at h, ⟨mw, fun v hv => by simp at hv⟩, by simp, .inr rfl⟩
 ·rw [if_neg h6]
  have pa := (ij h6 hma).2
  have pb := (ij h6 hmb).2
  refine ⟨fun _ => ?_, ⟨num_nF wa.1 wb.1 pa pb, fun v hv => by simp at hv⟩, by simp, .inl rfl⟩
  unfold gH
  rw [if_neg h6]
  have := nF_P agg a.1 b.1 pa pb
  simp
  by_cases h2 : agg = 2
  ·exact .inr (this h2)
  ·exact .inl h2
theorem cBytes_len {agg : Int} {c : Cl} : (ci agg c).size ≤ 10 + 10 * c.2.length := by
 unfold ci
 split
 ·rw [ByteArray.size_append]
  have := aN (c.2.length : Int)
  have := mv c.2
  omega
 ·have := aN c.1
  omega
theorem bytesR_of {agg bound : Int} {c : Cl} (hc : fd agg bound c = true) : bytesR agg bound c = (ci agg c, 0) := by unfold bytesR; rw [hc]; simp
theorem oneR_of {agg bound : Int} (v : Int) (hw : aJ agg bound = true) : oneR agg bound v = (dt agg v, 0) := by unfold oneR; rw [hw]; simp
theorem chk_zero {agg bound : Int} (hw : aJ agg bound = true) : fd agg bound (0, []) = true := by
 unfold fd
 rw [hw, Bool.true_and]
 by_cases h6 : agg = 6
 ·subst h6
  rw [may6]
  have : bl ([] : List Int) := bl.nil
  simp [this]
 ·unfold gH
  rw [if_neg h6]
  simp
end Go.Proofs.YtclcgakfmcofaaaGreatDoor
namespace Go.Proofs.YtclcgakfmcofaaaGreatDoor
open Go.Maps Go.RowKit
theorem ik {J : Cl → Cl → Cl × Int} {k : Ky} {c d : Cl} {st : List Rw} (hr : aZ st) (hd : aC st k = some d) (he : (J d c).2 ≠ 0) : (bZ J k c st).1 = st :=
 riseK_ext (kt hr) hr fun x => by
  rw [cR hr, hd, both, if_neg he]
  split
  ·next e => rw [e, hd]
  ·rfl
theorem km.mono {W : World} {base gp mp n n' : Nat} {agg bound : Int} {st : List Rw} {bad : Int} (h : km W base gp mp agg bound st bad n) (hn : n ≤ n') : km W base gp mp agg bound st bad n' := by
 obtain ⟨D, hom, hmc⟩ := h.mo
 exact ⟨h.gb, ⟨D, hom.mono hn, hmc⟩, h.hg, h.hm⟩
theorem km.setBad {W : World} {base gp mp n : Nat} {agg bound : Int} {st : List Rw} {bad : Int} (e : Int) (h : km W base gp mp agg bound st bad n) : km (W.setCell ⟨gp, 3, none⟩ (.int .i64 e)) base gp mp agg bound st e n := by
 obtain ⟨D, hom, hmc⟩ := h.mo
 have hlt := (Array.getElem?_eq_some_iff.1 h.gb).1
 have hne : mp ≠ gp := by
  obtain ⟨es, clock, hb, _⟩ := hom
  intro e
  subst e
  rw [h.gb] at hb
  cases hb
 refine ⟨?_, ⟨D, hom.setCell hne _, hmc.keep ?_⟩, h.hg, h.hm⟩
 ·have := h.gb
  simp [World.setCell, Array.getElem?_modify, this]
 ·refine ⟨by simp [World.setCell], fun g cur hg => ?_⟩
  have hgn : gp ≠ g := by
   intro e
   subst e
   rw [h.gb] at hg
   injection hg with hg
   injection hg with _ hg
   cases hg
  simp [World.setCell, Array.getElem?_modify, hgn, hg]
theorem with_blk {W W' : World} {b : Nat} {n : Int} {v : Value} {G : Prop} (h : aH W b n v) (hb : Below W.heap.size W W') (m : Int)
  (k : W'.cell? ⟨b, 0, none⟩ = some (.int .i64 n) ∧ W'.cell? ⟨b, 1, none⟩ = some v ∧ W'.frozen? ⟨b, 0, none⟩ = false ∧ W'.frozen? ⟨b, 1, none⟩ = false ∧ (W'.setCell ⟨b, 0, none⟩ (.int .i64 m)).cell? ⟨b, 1, none⟩ = some v ∧ (W'.setCell ⟨b, 0, none⟩ (.int .i64 m)).frozen? ⟨b, 1, none⟩ = false → G) : G := by
 have h' := h.below hb
 exact k ⟨h'.cells.1, h'.cells.2.1, h'.cells.2.2.1, h'.cells.2.2.2, (h'.set0 m).cells.2.1, (h'.set0 m).cells.2.2.2⟩
theorem add_old (gp mp base n : Nat) (agg bound : Int) (st : List Rw) (bad : Int) (k : Ky) (c d : Cl) (a : Option Addr) (cap : Nat) (w : World) (h : km w base gp mp agg bound st bad n) (hb : base ≤ w.heap.size) (hn : n < 1000000)
  (hk : eI k) (hc : NS w (.slice a c.2.length cap) c.2) (hl : c.2.length ≤ 32) (hlook : aC st k = some d) (hr : aZ st) (hcc : fd agg bound c = true) (hcd : fd agg bound d = true) (wc : WfC c) (wd : WfC d) (hld : d.2.length ≤ 32) :
  Calls Tryz.prog 133 #[.pointer (some ⟨gp, 0, none⟩), iy k, .agg #[.int .i64 c.1, .slice a c.2.length cap]] w fun e w' =>
   e = .returned (.tuple #[]) ∧ km w' base gp mp agg bound (bZ (am agg bound.toNat) k c st).1 (if (am agg bound.toNat d c).2 = 0 then bad else (am agg bound.toNat d c).2) (n + 1) ∧ Below base w w' := by
 obtain ⟨D, hom, hmc⟩ := h.mo
 obtain ⟨ka, kb⟩ := k
 obtain ⟨c1, c2⟩ := c
 obtain ⟨s, hat, hos⟩ := hmc.yes _ _ hk hlook
 obtain ⟨sa, scap, hs'⟩ := hos.shape
 obtain ⟨s1, s2, s3⟩ := s
 injection hs' with e1 e2 e3
 subst e1 e2 e3
 obtain ⟨d1, d2⟩ := d
 simp only at hc hl hat hos ⊢
 simp only [iy]
 obtain ⟨W0, hW0⟩ : ∃ W0 : World, W0 = (w.alloc (.cells #[.int .i64 ka, .string kb] 124)).alloc (.cells #[.int .i64 c1, .slice a c2.length cap] 127) := ⟨_, rfl⟩
 have hbx : Bx w W0 (ka, kb) c1 (.slice a c2.length cap) := by rw [hW0]; exact bx_ok w (ka, kb) _ _
 obtain ⟨hb0, hs0, bk, bc⟩ := hbx
 obtain ⟨k0, k1⟩ := blk2 bk
 obtain ⟨l0, l1, -, -⟩ := bc.cells
 have h0 := h.below hb0
 obtain ⟨g0, g1, g2, g3, g4⟩ := h0.cells
 have st1 : ∀ (W : World) (o : Obj), Below W.heap.size W (W.alloc o) := fun W o => (Below.refl _ _).alloc (Nat.le_refl _) _
 have hm0 : W0.ownsMap Tryz.prog 124 RC mp n D := by
  obtain ⟨es, clock, hb1, r⟩ := hom
  exact ⟨es, clock, by rw [hb0.block mp (Array.getElem?_eq_some_iff.1 hb1).1]; exact hb1, r⟩
 have r1 := look_yes hm0.drew hk hat
 have r2 := look_yes (hm0.alloc (.cells #[.int .i64 0, .slice none 0 0] 127)).drew hk hat
 simp only [iy] at r1 r2
 obtain ⟨Wz, hWz⟩ : ∃ Wz : World, Wz = W0.alloc (.cells #[.int .i64 0, .slice none 0 0] 127) := ⟨_, rfl⟩
 obtain ⟨Wy, hWy⟩ : ∃ Wy : World, Wy = W0.alloc (.cells #[.int .i64 d1, .slice s1 d2.length s3] 127) := ⟨_, rfl⟩
 have hbz : Below W0.heap.size W0 Wz := by rw [hWz]; exact st1 _ _
 have hby : Below W0.heap.size W0 Wy := by rw [hWy]; exact st1 _ _
 have bd : aH Wy (w.heap.size + 2) d1 (.slice s1 d2.length s3) := by
  have := aH.new W0 d1 (.slice s1 d2.length s3)
  rw [hs0] at this
  rw [hWy]
  exact this
 have hy := h0.below hby
 have bcy := bc.below hby
 have bky : Wy.heap[w.heap.size]? = some (.cells #[.int .i64 ka, .string kb] 124 (0, 0)) := (hby.block w.heap.size (by omega)).trans bk
 have Y := ae (show ∀ W, Below W0.heap.size W0 W → W.cell? ⟨gp, 2, none⟩ = some (.map (some mp)) ∧ W.cell? ⟨w.heap.size, 0, none⟩ = some (.int .i64 ka) ∧ W.cell? ⟨w.heap.size, 1, none⟩ = some (.string kb) from fun W hW =>
  ⟨(h0.below hW).cells.2.2.1, (hW.cell (p := ⟨w.heap.size, 0, none⟩) (by show w.heap.size < _; omega)).trans k0, (hW.cell (p := ⟨w.heap.size, 1, none⟩) (by show w.heap.size < _; omega)).trans k1⟩)
 have hwy : Below w.heap.size w Wy := ag hb0 hby
 have hsy : Wy.heap.size = w.heap.size + 3 := by rw [hWy]; simp; omega
 have KJ := ae (show ∀ W, Below Wy.heap.size Wy W → W.cell? ⟨gp, 0, none⟩ = some (.int .i64 agg) ∧ W.cell? ⟨gp, 1, none⟩ = some (.int .i64 bound) ∧ W.cell? ⟨w.heap.size + 2, 0, none⟩ = some (.int .i64 d1) ∧ W.cell? ⟨w.heap.size + 2, 1, none⟩ = some (.slice s1 d2.length s3) ∧ W.cell? ⟨w.heap.size + 1, 0, none⟩ = some (.int .i64 c1) ∧ W.cell? ⟨w.heap.size + 1, 1, none⟩ = some (.slice a c2.length cap) ∧ Below Wy.heap.size Wy W from fun W hW =>
  ⟨(hy.below hW).cells.1, (hy.below hW).cells.2.1, (bd.below hW).cells.1, (bd.below hW).cells.2.1, (bcy.below hW).cells.1, (bcy.below hW).cells.2.1, hW⟩)
 have JN := ae (fun W (hW : Below Wy.heap.size Wy W) => join_any agg bound _ _ (d1, d2) (c1, c2) W ⟨s1, s3, rfl, (ay.ns hos).below (ag hwy hW)⟩ ⟨a, cap, rfl, hc.below (ag hwy hW)⟩ wd wc (by show d2.length ≤ 50000; have : d2.length ≤ 32 := hld; omega) (by show c2.length ≤ 50000; omega))
 rw [jK hcd hcc] at JN
 have B8 := ae (show aH (Wy.alloc (.cells #[.int .i64 0, .slice none 0 0] 127)).drew.drew (w.heap.size + 3) 0 (.slice none 0 0) from by
  have := aH.new Wy 0 (.slice none 0 0)
  rw [hsy] at this
  exact this)
 have HW := ae hW0.symm
 have HZ := ae hWz.symm
 have HY := ae hWy.symm
 obtain ⟨⟨⟨r1, r2⟩, re⟩, hre⟩ : ∃ r : Cl × Int, r = am agg bound.toNat (d1, d2) (c1, c2) := ⟨_, rfl⟩
 rw [← hre] at JN ⊢
 simp only at JN ⊢
 have HJ : Hid (am agg bound.toNat (d1, d2) (c1, c2) = ((r1, r2), re)) := hre.symm
 clear hW0 hWz hWy hre
 go_enter Tryz.func133, Tryz.ntmps133
 go_wp2_with fail
 rw [HW.out]
 go_region_held3 (fun W' => W'.cell? ⟨gp, 2, none⟩ = some (.map (some mp)) ∧ W'.cell? ⟨w.heap.size, 0, none⟩ = some (.int .i64 ka) ∧ W'.cell? ⟨w.heap.size, 1, none⟩ = some (.string kb))
  (first | exact ⟨g2, k0, k1⟩ | (rw [HZ.out]; exact Y.out _ hbz.drew) | (rw [HY.out]; exact Y.out _ hby.drew))
  (fail)
 all_goals
  rw [HY.out]
  go_wp2_with fail
  go_region_held3 (fun W' => W'.cell? ⟨gp, 0, none⟩ = some (.int .i64 agg) ∧ W'.cell? ⟨gp, 1, none⟩ = some (.int .i64 bound) ∧ W'.cell? ⟨w.heap.size + 2, 0, none⟩ = some (.int .i64 d1) ∧ W'.cell? ⟨w.heap.size + 2, 1, none⟩ = some (.slice s1 d2.length s3) ∧ W'.cell? ⟨w.heap.size + 1, 0, none⟩ = some (.int .i64 c1) ∧ W'.cell? ⟨w.heap.size + 1, 1, none⟩ = some (.slice a c2.length cap) ∧ Below Wy.heap.size Wy W')
   (first
    | exact KJ.out _ (Below.refl _ _).drew.drew
    | exact KJ.out _ ((Below.refl Wy.heap.size Wy).alloc (Nat.le_refl _) _).drew.drew
    | exact KJ.out _ (ag (‹_ ∧ _ ∧ _ ∧ _ ∧ _ ∧ _ ∧ Below Wy.heap.size Wy _›).2.2.2.2.2.2 hb5)
    | exact KJ.out _ ((‹_ ∧ _ ∧ _ ∧ _ ∧ _ ∧ _ ∧ Below Wy.heap.size Wy _›).2.2.2.2.2.2.alloc (‹_ ∧ _ ∧ _ ∧ _ ∧ _ ∧ _ ∧ Below Wy.heap.size Wy _›).2.2.2.2.2.2.size _)
    | exact KJ.out _ ((ag ((Below.refl Wy.heap.size Wy).drew.drew) hb5).alloc (ag ((Below.refl Wy.heap.size Wy).drew.drew) hb5).size _)
    | exact KJ.out _ (bN (‹_ ∧ _ ∧ _ ∧ _ ∧ _ ∧ _ ∧ Below Wy.heap.size Wy _›).2.2.2.2.2.2 (by first | exact Nat.le_refl _ | omega) _ _)
    | (trace_state; fail))
   (first | (go_at_call 161; refine (JN.out _ (‹_ ∧ _ ∧ _ ∧ _ ∧ _ ∧ _ ∧ Below Wy.heap.size Wy _›).2.2.2.2.2.2).mono ?_; rintro e W5 ⟨⟨v5, rfl, a5, c5, rfl, ho5⟩, hb5⟩; first | (refine with_blk B8.out hb5 r1 ?_; rintro ⟨c80, c81, f80, f81, c81', f81'⟩) | skip))
 ·have F0 := ag ((Below.refl Wy.heap.size Wy).drew.drew) hb5
  have F1 : Below Wy.heap.size Wy (W5.alloc (.cells #[.int .i64 r1, .slice a5 r2.length c5] 127)) := F0.alloc F0.size _
  have F2 := aH.new W5 r1 (.slice a5 r2.length c5)
  have F3 : ay (W5.alloc (.cells #[.int .i64 r1, .slice a5 r2.length c5] 127)) base (.slice a5 r2.length c5) r2 := (ho5.below ((Below.refl _ _).alloc (Nat.le_refl _) _)).lower (by show base ≤ Wy.heap.size; omega)
  generalize W5.alloc (.cells #[.int .i64 r1, .slice a5 r2.length c5] 127) = W6 at F1 F2 F3 ⊢
  have hG6 := hy.below F1
  obtain ⟨z0, z1, z2, z3, z4⟩ := hG6.cells
  obtain ⟨kz0, kz1⟩ := blk2 ((F1.block w.heap.size (by omega)).trans bky)
  obtain ⟨q0, q1, -, -⟩ := F2.cells
  have hw6 := ag hwy F1
  by_cases hre : re = 0
  ·subst hre
   obtain ⟨D6, hom6, hmc6⟩ := hG6.mo
   obtain ⟨W7, u1, hom7, u2⟩ := (hom6.drew).update law Tryz.underlying253 (by unfold maxLen; omega) (fV hk) (show RC (dE r1 (a5, r2.length, c5)) = some (.held (dE r1 (a5, r2.length, c5)), []) from rfl)
   have u2' : W6.grownBy W7 (some mp) := ⟨u2.os, u2.tape, u2.output, u2.size, u2.block⟩
   obtain ⟨hG7, hne⟩ := hG6.put (st' := (bZ (am agg bound.toNat) (ka, kb) (c1, c2) st).1) (c := (r1, r2)) (s := (a5, r2.length, c5)) hom6 hmc6 hom7 u2' hk F3 (eG hr) (fun y => by rw [cR hr, hlook, both, HJ.out]; rfl)
   have hmlt : mp < w.heap.size := hom.lt
   have hglt : gp < w.heap.size := (Array.getElem?_eq_some_iff.1 h.gb).1
   have hb7 : Below base w W7 := (hw6.mono hb).grown u2' (by have := hw6.size; omega) (fun k hk => by injection hk with hk; subst hk; exact h.hm)
   have hF2 := F2.lt
   have hs6 := F1.size
   have hs5 := F0.size
   have Y7 := ae (show W7.cell? ⟨gp, 2, none⟩ = some (.map (some mp)) ∧ W7.cell? ⟨w.heap.size, 0, none⟩ = some (.int .i64 ka) ∧ W7.cell? ⟨w.heap.size, 1, none⟩ = some (.string kb) ∧ W7.cell? ⟨W5.heap.size, 0, none⟩ = some (.int .i64 r1) ∧ W7.cell? ⟨W5.heap.size, 1, none⟩ = some (.slice a5 r2.length c5) from
    have far : ∀ b o : Nat, b < W6.heap.size → b ≠ mp → W7.cell? ⟨b, o, none⟩ = W6.cell? ⟨b, o, none⟩ := fun b o hlt hn => u2'.cell_far ⟨b, o, none⟩ hlt (fun e => hn (by injection e))
    ⟨(far _ _ (by omega) hne).trans z2, (far _ _ (by omega) (by omega)).trans kz0, (far _ _ (by omega) (by omega)).trans kz1, (far _ _ (by omega) (by omega)).trans q0, (far _ _ (by omega) (by omega)).trans q1⟩)
   have FIN := ae (And.intro hG7 hb7)
   clear hG7 hb7 u2 u2' hom7 hom6 hmc6 hG6 F3 hw6 hmlt
   go_wp2_with fail
   go_region_held3 (fun W' => W'.cell? ⟨gp, 2, none⟩ = some (.map (some mp)) ∧ W'.cell? ⟨w.heap.size, 0, none⟩ = some (.int .i64 ka) ∧ W'.cell? ⟨w.heap.size, 1, none⟩ = some (.string kb) ∧ W'.cell? ⟨W5.heap.size, 0, none⟩ = some (.int .i64 r1) ∧ W'.cell? ⟨W5.heap.size, 1, none⟩ = some (.slice a5 r2.length c5))
    (first | exact ⟨z2, kz0, kz1, q0, q1⟩ | exact Y7.out)
    (fail)
   all_goals
    go_wp2
    go_end0
    exact ⟨rfl, FIN.out⟩
  ·have hre' : ¬ re = 0 := hre
   have hbt : (re != 0) = true := by simp [hre]
   have hput := ik (J := am agg bound.toNat) (c := (c1, c2)) hr hlook (by rw [HJ.out]; exact hre)
   have FIN := ae (show km (W6.setCell ⟨gp, 3, none⟩ (.int .i64 re)) base gp mp agg bound (bZ (am agg bound.toNat) (ka, kb) (c1, c2) st).1 re (n + 1) ∧ Below base w (W6.setCell ⟨gp, 3, none⟩ (.int .i64 re)) from
    ⟨by rw [hput]; exact (hG6.setBad re).mono (by omega), (hw6.mono hb).setCell (p := ⟨gp, 3, none⟩) h.hg _⟩)
   clear hG6 F3 hw6 hput
   go_wp2
   refine bodyPost_ret (results_none rfl _ _ _) rfl ?_
   first | exact ⟨rfl, FIN.out⟩ | (rw [if_neg hre]; exact ⟨rfl, FIN.out⟩)
 ·have F0 : Below Wy.heap.size Wy W5 := ag (((Below.refl Wy.heap.size Wy).alloc (Nat.le_refl _) (.cells #[.int .i64 0, .slice none 0 0] 127)).drew.drew) hb5
  have F1 : Below Wy.heap.size Wy ((W5.setCell ⟨w.heap.size + 3, 0, none⟩ (.int .i64 r1)).setCell ⟨w.heap.size + 3, 1, none⟩ (.slice a5 r2.length c5)) := bN F0 (by omega) _ _
  have F2 := (B8.out.below hb5).set (m := r1) (u := .slice a5 r2.length c5)
  have F3 : ay ((W5.setCell ⟨w.heap.size + 3, 0, none⟩ (.int .i64 r1)).setCell ⟨w.heap.size + 3, 1, none⟩ (.slice a5 r2.length c5)) base (.slice a5 r2.length c5) r2 := (fW ho5 (by simp; omega) _ _).lower (by simp; omega)
  generalize (W5.setCell ⟨w.heap.size + 3, 0, none⟩ (.int .i64 r1)).setCell ⟨w.heap.size + 3, 1, none⟩ (.slice a5 r2.length c5) = W6 at F1 F2 F3 ⊢
  have hG6 := hy.below F1
  obtain ⟨z0, z1, z2, z3, z4⟩ := hG6.cells
  obtain ⟨kz0, kz1⟩ := blk2 ((F1.block w.heap.size (by omega)).trans bky)
  obtain ⟨q0, q1, -, -⟩ := F2.cells
  have hw6 := ag hwy F1
  by_cases hre : re = 0
  ·subst hre
   obtain ⟨D6, hom6, hmc6⟩ := hG6.mo
   obtain ⟨W7, u1, hom7, u2⟩ := (hom6.drew).update law Tryz.underlying253 (by unfold maxLen; omega) (fV hk) (show RC (dE r1 (a5, r2.length, c5)) = some (.held (dE r1 (a5, r2.length, c5)), []) from rfl)
   have u2' : W6.grownBy W7 (some mp) := ⟨u2.os, u2.tape, u2.output, u2.size, u2.block⟩
   obtain ⟨hG7, hne⟩ := hG6.put (st' := (bZ (am agg bound.toNat) (ka, kb) (c1, c2) st).1) (c := (r1, r2)) (s := (a5, r2.length, c5)) hom6 hmc6 hom7 u2' hk F3 (eG hr) (fun y => by rw [cR hr, hlook, both, HJ.out]; rfl)
   have hmlt : mp < w.heap.size := hom.lt
   have hglt : gp < w.heap.size := (Array.getElem?_eq_some_iff.1 h.gb).1
   have hb7 : Below base w W7 := (hw6.mono hb).grown u2' (by have := hw6.size; omega) (fun k hk => by injection hk with hk; subst hk; exact h.hm)
   have hF2 := F2.lt
   have hs6 := F1.size
   have hs5 := F0.size
   have Y7 := ae (show W7.cell? ⟨gp, 2, none⟩ = some (.map (some mp)) ∧ W7.cell? ⟨w.heap.size, 0, none⟩ = some (.int .i64 ka) ∧ W7.cell? ⟨w.heap.size, 1, none⟩ = some (.string kb) ∧ W7.cell? ⟨w.heap.size + 3, 0, none⟩ = some (.int .i64 r1) ∧ W7.cell? ⟨w.heap.size + 3, 1, none⟩ = some (.slice a5 r2.length c5) from
    have far : ∀ b o : Nat, b < W6.heap.size → b ≠ mp → W7.cell? ⟨b, o, none⟩ = W6.cell? ⟨b, o, none⟩ := fun b o hlt hn => u2'.cell_far ⟨b, o, none⟩ hlt (fun e => hn (by injection e))
    ⟨(far _ _ (by omega) hne).trans z2, (far _ _ (by omega) (by omega)).trans kz0, (far _ _ (by omega) (by omega)).trans kz1, (far _ _ (by omega) (by omega)).trans q0, (far _ _ (by omega) (by omega)).trans q1⟩)
   have FIN := ae (And.intro hG7 hb7)
   clear hG7 hb7 u2 u2' hom7 hom6 hmc6 hG6 F3 hw6 hmlt
   go_wp2_with fail
   go_region_held3 (fun W' => W'.cell? ⟨gp, 2, none⟩ = some (.map (some mp)) ∧ W'.cell? ⟨w.heap.size, 0, none⟩ = some (.int .i64 ka) ∧ W'.cell? ⟨w.heap.size, 1, none⟩ = some (.string kb) ∧ W'.cell? ⟨w.heap.size + 3, 0, none⟩ = some (.int .i64 r1) ∧ W'.cell? ⟨w.heap.size + 3, 1, none⟩ = some (.slice a5 r2.length c5))
    (first | exact ⟨z2, kz0, kz1, q0, q1⟩ | exact Y7.out)
    (fail)
   all_goals
    go_wp2
    go_end0
    exact ⟨rfl, FIN.out⟩
  ·have hre' : ¬ re = 0 := hre
   have hbt : (re != 0) = true := by simp [hre]
   have hput := ik (J := am agg bound.toNat) (c := (c1, c2)) hr hlook (by rw [HJ.out]; exact hre)
   have FIN := ae (show km (W6.setCell ⟨gp, 3, none⟩ (.int .i64 re)) base gp mp agg bound (bZ (am agg bound.toNat) (ka, kb) (c1, c2) st).1 re (n + 1) ∧ Below base w (W6.setCell ⟨gp, 3, none⟩ (.int .i64 re)) from
    ⟨by rw [hput]; exact (hG6.setBad re).mono (by omega), (hw6.mono hb).setCell (p := ⟨gp, 3, none⟩) h.hg _⟩)
   clear hG6 F3 hw6 hput
   go_wp2
   refine bodyPost_ret (results_none rfl _ _ _) rfl ?_
   first | exact ⟨rfl, FIN.out⟩ | (rw [if_neg hre]; exact ⟨rfl, FIN.out⟩)
 ·have F0 := ag ((Below.refl Wy.heap.size Wy).drew.drew) hb5
  have F1 : Below Wy.heap.size Wy (W5.alloc (.cells #[.int .i64 r1, .slice a5 r2.length c5] 127)) := F0.alloc F0.size _
  have F2 := aH.new W5 r1 (.slice a5 r2.length c5)
  have F3 : ay (W5.alloc (.cells #[.int .i64 r1, .slice a5 r2.length c5] 127)) base (.slice a5 r2.length c5) r2 := (ho5.below ((Below.refl _ _).alloc (Nat.le_refl _) _)).lower (by show base ≤ Wy.heap.size; omega)
  generalize W5.alloc (.cells #[.int .i64 r1, .slice a5 r2.length c5] 127) = W6 at F1 F2 F3 ⊢
  have hG6 := hy.below F1
  obtain ⟨z0, z1, z2, z3, z4⟩ := hG6.cells
  obtain ⟨kz0, kz1⟩ := blk2 ((F1.block w.heap.size (by omega)).trans bky)
  obtain ⟨q0, q1, -, -⟩ := F2.cells
  have hw6 := ag hwy F1
  by_cases hre : re = 0
  ·subst hre
   obtain ⟨D6, hom6, hmc6⟩ := hG6.mo
   obtain ⟨W7, u1, hom7, u2⟩ := (hom6.drew).update law Tryz.underlying253 (by unfold maxLen; omega) (fV hk) (show RC (dE r1 (a5, r2.length, c5)) = some (.held (dE r1 (a5, r2.length, c5)), []) from rfl)
   have u2' : W6.grownBy W7 (some mp) := ⟨u2.os, u2.tape, u2.output, u2.size, u2.block⟩
   obtain ⟨hG7, hne⟩ := hG6.put (st' := (bZ (am agg bound.toNat) (ka, kb) (c1, c2) st).1) (c := (r1, r2)) (s := (a5, r2.length, c5)) hom6 hmc6 hom7 u2' hk F3 (eG hr) (fun y => by rw [cR hr, hlook, both, HJ.out]; rfl)
   have hmlt : mp < w.heap.size := hom.lt
   have hglt : gp < w.heap.size := (Array.getElem?_eq_some_iff.1 h.gb).1
   have hb7 : Below base w W7 := (hw6.mono hb).grown u2' (by have := hw6.size; omega) (fun k hk => by injection hk with hk; subst hk; exact h.hm)
   have hF2 := F2.lt
   have hs6 := F1.size
   have hs5 := F0.size
   have Y7 := ae (show W7.cell? ⟨gp, 2, none⟩ = some (.map (some mp)) ∧ W7.cell? ⟨w.heap.size, 0, none⟩ = some (.int .i64 ka) ∧ W7.cell? ⟨w.heap.size, 1, none⟩ = some (.string kb) ∧ W7.cell? ⟨W5.heap.size, 0, none⟩ = some (.int .i64 r1) ∧ W7.cell? ⟨W5.heap.size, 1, none⟩ = some (.slice a5 r2.length c5) from
    have far : ∀ b o : Nat, b < W6.heap.size → b ≠ mp → W7.cell? ⟨b, o, none⟩ = W6.cell? ⟨b, o, none⟩ := fun b o hlt hn => u2'.cell_far ⟨b, o, none⟩ hlt (fun e => hn (by injection e))
    ⟨(far _ _ (by omega) hne).trans z2, (far _ _ (by omega) (by omega)).trans kz0, (far _ _ (by omega) (by omega)).trans kz1, (far _ _ (by omega) (by omega)).trans q0, (far _ _ (by omega) (by omega)).trans q1⟩)
   have FIN := ae (And.intro hG7 hb7)
   clear hG7 hb7 u2 u2' hom7 hom6 hmc6 hG6 F3 hw6 hmlt
   go_wp2_with fail
   go_region_held3 (fun W' => W'.cell? ⟨gp, 2, none⟩ = some (.map (some mp)) ∧ W'.cell? ⟨w.heap.size, 0, none⟩ = some (.int .i64 ka) ∧ W'.cell? ⟨w.heap.size, 1, none⟩ = some (.string kb) ∧ W'.cell? ⟨W5.heap.size, 0, none⟩ = some (.int .i64 r1) ∧ W'.cell? ⟨W5.heap.size, 1, none⟩ = some (.slice a5 r2.length c5))
    (first | exact ⟨z2, kz0, kz1, q0, q1⟩ | exact Y7.out)
    (fail)
   all_goals
    go_wp2
    go_end0
    exact ⟨rfl, FIN.out⟩
  ·have hre' : ¬ re = 0 := hre
   have hbt : (re != 0) = true := by simp [hre]
   have hput := ik (J := am agg bound.toNat) (c := (c1, c2)) hr hlook (by rw [HJ.out]; exact hre)
   have FIN := ae (show km (W6.setCell ⟨gp, 3, none⟩ (.int .i64 re)) base gp mp agg bound (bZ (am agg bound.toNat) (ka, kb) (c1, c2) st).1 re (n + 1) ∧ Below base w (W6.setCell ⟨gp, 3, none⟩ (.int .i64 re)) from
    ⟨by rw [hput]; exact (hG6.setBad re).mono (by omega), (hw6.mono hb).setCell (p := ⟨gp, 3, none⟩) h.hg _⟩)
   clear hG6 F3 hw6 hput
   go_wp2
   refine bodyPost_ret (results_none rfl _ _ _) rfl ?_
   first | exact ⟨rfl, FIN.out⟩ | (rw [if_neg hre]; exact ⟨rfl, FIN.out⟩)
 ·have F0 : Below Wy.heap.size Wy W5 := ag (((Below.refl Wy.heap.size Wy).alloc (Nat.le_refl _) (.cells #[.int .i64 0, .slice none 0 0] 127)).drew.drew) hb5
  have F1 : Below Wy.heap.size Wy ((W5.setCell ⟨w.heap.size + 3, 0, none⟩ (.int .i64 r1)).setCell ⟨w.heap.size + 3, 1, none⟩ (.slice a5 r2.length c5)) := bN F0 (by omega) _ _
  have F2 := (B8.out.below hb5).set (m := r1) (u := .slice a5 r2.length c5)
  have F3 : ay ((W5.setCell ⟨w.heap.size + 3, 0, none⟩ (.int .i64 r1)).setCell ⟨w.heap.size + 3, 1, none⟩ (.slice a5 r2.length c5)) base (.slice a5 r2.length c5) r2 := (fW ho5 (by simp; omega) _ _).lower (by simp; omega)
  generalize (W5.setCell ⟨w.heap.size + 3, 0, none⟩ (.int .i64 r1)).setCell ⟨w.heap.size + 3, 1, none⟩ (.slice a5 r2.length c5) = W6 at F1 F2 F3 ⊢
  have hG6 := hy.below F1
  obtain ⟨z0, z1, z2, z3, z4⟩ := hG6.cells
  obtain ⟨kz0, kz1⟩ := blk2 ((F1.block w.heap.size (by omega)).trans bky)
  obtain ⟨q0, q1, -, -⟩ := F2.cells
  have hw6 := ag hwy F1
  by_cases hre : re = 0
  ·subst hre
   obtain ⟨D6, hom6, hmc6⟩ := hG6.mo
   obtain ⟨W7, u1, hom7, u2⟩ := (hom6.drew).update law Tryz.underlying253 (by unfold maxLen; omega) (fV hk) (show RC (dE r1 (a5, r2.length, c5)) = some (.held (dE r1 (a5, r2.length, c5)), []) from rfl)
   have u2' : W6.grownBy W7 (some mp) := ⟨u2.os, u2.tape, u2.output, u2.size, u2.block⟩
   obtain ⟨hG7, hne⟩ := hG6.put (st' := (bZ (am agg bound.toNat) (ka, kb) (c1, c2) st).1) (c := (r1, r2)) (s := (a5, r2.length, c5)) hom6 hmc6 hom7 u2' hk F3 (eG hr) (fun y => by rw [cR hr, hlook, both, HJ.out]; rfl)
   have hmlt : mp < w.heap.size := hom.lt
   have hglt : gp < w.heap.size := (Array.getElem?_eq_some_iff.1 h.gb).1
   have hb7 : Below base w W7 := (hw6.mono hb).grown u2' (by have := hw6.size; omega) (fun k hk => by injection hk with hk; subst hk; exact h.hm)
   have hF2 := F2.lt
   have hs6 := F1.size
   have hs5 := F0.size
   have Y7 := ae (show W7.cell? ⟨gp, 2, none⟩ = some (.map (some mp)) ∧ W7.cell? ⟨w.heap.size, 0, none⟩ = some (.int .i64 ka) ∧ W7.cell? ⟨w.heap.size, 1, none⟩ = some (.string kb) ∧ W7.cell? ⟨w.heap.size + 3, 0, none⟩ = some (.int .i64 r1) ∧ W7.cell? ⟨w.heap.size + 3, 1, none⟩ = some (.slice a5 r2.length c5) from
    have far : ∀ b o : Nat, b < W6.heap.size → b ≠ mp → W7.cell? ⟨b, o, none⟩ = W6.cell? ⟨b, o, none⟩ := fun b o hlt hn => u2'.cell_far ⟨b, o, none⟩ hlt (fun e => hn (by injection e))
    ⟨(far _ _ (by omega) hne).trans z2, (far _ _ (by omega) (by omega)).trans kz0, (far _ _ (by omega) (by omega)).trans kz1, (far _ _ (by omega) (by omega)).trans q0, (far _ _ (by omega) (by omega)).trans q1⟩)
   have FIN := ae (And.intro hG7 hb7)
   clear hG7 hb7 u2 u2' hom7 hom6 hmc6 hG6 F3 hw6 hmlt
   go_wp2_with fail
   go_region_held3 (fun W' => W'.cell? ⟨gp, 2, none⟩ = some (.map (some mp)) ∧ W'.cell? ⟨w.heap.size, 0, none⟩ = some (.int .i64 ka) ∧ W'.cell? ⟨w.heap.size, 1, none⟩ = some (.string kb) ∧ W'.cell? ⟨w.heap.size + 3, 0, none⟩ = some (.int .i64 r1) ∧ W'.cell? ⟨w.heap.size + 3, 1, none⟩ = some (.slice a5 r2.length c5))
    (first | exact ⟨z2, kz0, kz1, q0, q1⟩ | exact Y7.out)
    (fail)
   all_goals
    go_wp2
    go_end0
    exact ⟨rfl, FIN.out⟩
  ·have hre' : ¬ re = 0 := hre
   have hbt : (re != 0) = true := by simp [hre]
   have hput := ik (J := am agg bound.toNat) (c := (c1, c2)) hr hlook (by rw [HJ.out]; exact hre)
   have FIN := ae (show km (W6.setCell ⟨gp, 3, none⟩ (.int .i64 re)) base gp mp agg bound (bZ (am agg bound.toNat) (ka, kb) (c1, c2) st).1 re (n + 1) ∧ Below base w (W6.setCell ⟨gp, 3, none⟩ (.int .i64 re)) from
    ⟨by rw [hput]; exact (hG6.setBad re).mono (by omega), (hw6.mono hb).setCell (p := ⟨gp, 3, none⟩) h.hg _⟩)
   clear hG6 F3 hw6 hput
   go_wp2
   refine bodyPost_ret (results_none rfl _ _ _) rfl ?_
   first | exact ⟨rfl, FIN.out⟩ | (rw [if_neg hre]; exact ⟨rfl, FIN.out⟩)
theorem add_any (gp mp base n : Nat) (agg bound : Int) (S : List Rw × Int) (r : Rw) (v : Value) (w : World) (h : km w base gp mp agg bound S.1 S.2 n) (hb : base ≤ w.heap.size) (hn : n < 1000000)
  (hk : eI r.1) (hc : CS w v r.2) (hl : r.2.2.length ≤ 32) (hr : aZ S.1) (hcc : fd agg bound r.2 = true) (wc : WfC r.2) (hall : ∀ x c, aC S.1 x = some c → fd agg bound c = true ∧ WfC c ∧ c.2.length ≤ 32) :
  Calls Tryz.prog 133 #[.pointer (some ⟨gp, 0, none⟩), iy r.1, v] w fun e w' =>
   e = .returned (.tuple #[]) ∧ km w' base gp mp agg bound (dP (am agg bound.toNat) S r).1 (dP (am agg bound.toNat) S r).2 (n + 1) ∧ Below base w w' := by
 obtain ⟨a, cap, rfl, hc⟩ := hc
 unfold dP
 simp only
 rw [me hr]
 cases hlook : aC S.1 r.1 with
 | none => exact add_new gp mp base n agg bound S.1 S.2 r.1 r.2 a cap w h hb hn hk hc hl hlook hr
 | some d =>
  obtain ⟨h1, h2, h3⟩ := hall _ _ hlook
  exact add_old gp mp base n agg bound S.1 S.2 r.1 r.2 d a cap w h hb hn hk hc hl hlook hr hcc h1 wc h2 h3
end Go.Proofs.YtclcgakfmcofaaaGreatDoor
