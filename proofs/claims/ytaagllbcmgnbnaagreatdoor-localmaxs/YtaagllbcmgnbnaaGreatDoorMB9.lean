/- Texts laid together: GJoinF, WAdd. -/
import Derived.Test.YtaagllbcmgnbnaaGreatDoorMB7
import Derived.Test.YtaagllbcmgnbnaaGreatDoorMB8
import Derived.Test.YtaagllbcmgnbnaaGreatDoorMB4
import Derived.Test.YtaagllbcmgnbnaaGreatDoorMB5
import Derived.RegionTactic
import Derived.ChangeAlike
import Derived.Deep.RegionHeld3
import Derived.Deep.AppendLies
/- Two cells together: the program's. -/
namespace Go.Proofs.YtaagllbcmgnbnaaGreatDoor
open Go.RowKit
set_option linter.unusedVariables false
set_option maxRecDepth 100000

/-- What Join answers, whatever comes. -/
def joinR (agg bound : Int) (a b : Cl) : Cl × Int := if chk agg bound a && chk agg bound b then joinC agg bound.toNat a b else ((0, []), 1)
theorem chk_may {agg bound : Int} {c : Cl} (h : chk agg bound c = true) : wayC agg bound = true ∧ mayC agg bound.toNat c = true := by simpa [chk] using h
theorem may_rise {bound : Nat} {c : Cl} (h : mayC 6 bound c = true) : c.1 = 0 ∧ Rise c.2 ∧ c.2.length ≤ bound := by
  rw [may6] at h
  simp only [Bool.and_eq_true, decide_eq_true_eq] at h
  exact ⟨h.1.1, h.2, h.1.2⟩
theorem may_num {agg : Int} {bound : Nat} {c : Cl} (h6 : agg ≠ 6) (h : mayC agg bound c = true) : c.2 = [] ∧ nP agg c.1 := by
  unfold mayC at h
  rw [if_neg h6] at h
  simp only [Bool.and_eq_true, decide_eq_true_eq] at h
  exact ⟨h.1, h.2⟩
/-- The two boxes and the result's cell. -/
structure JW (w W : World) (a b : Cl) (va vb : Value) : Prop where
  bel : Below w.heap.size w W
  sz : W.heap.size = w.heap.size + 3
  ba : BlkC W w.heap.size a.1 va
  bb : BlkC W (w.heap.size + 1) b.1 vb
  br : BlkC W (w.heap.size + 2) 0 (.slice none 0 0)
def jw (w : World) (a b : Cl) (va vb : Value) : World := ((w.alloc (.cells #[.int .i64 a.1, va] 80)).alloc (.cells #[.int .i64 b.1, vb] 80)).alloc (.cells #[.int .i64 0, .slice none 0 0] 80)
theorem jw_ok (w : World) (a b : Cl) (va vb : Value) : JW w (jw w a b va vb) a b va vb := by
  have n1 := BlkC.new w a.1 va
  have n2 := BlkC.new (w.alloc (.cells #[.int .i64 a.1, va] 80)) b.1 vb
  have n3 := BlkC.new ((w.alloc (.cells #[.int .i64 a.1, va] 80)).alloc (.cells #[.int .i64 b.1, vb] 80)) 0 (.slice none 0 0)
  have st : ∀ (W : World) (o : Obj), Below W.heap.size W (W.alloc o) := fun W o => (Below.refl _ _).alloc (Nat.le_refl _) _
  refine ⟨nxt (nxt (st _ _) (st _ _)) (st _ _), by simp [jw], (n1.below (st _ _)).below (st _ _), ?_, ?_⟩
  · have := n2.below (st _ (.cells #[.int .i64 0, .slice none 0 0] 80))
    simpa [jw] using this
  · simpa [jw] using n3
theorem JW.next {w W W' : World} {a b : Cl} {va vb : Value} (h : JW w W a b va vb) (hb : Below W.heap.size W W') : Below w.heap.size w W' ∧ BlkC W' w.heap.size a.1 va ∧ BlkC W' (w.heap.size + 1) b.1 vb ∧ BlkC W' (w.heap.size + 2) 0 (.slice none 0 0) ∧ w.heap.size + 3 ≤ W'.heap.size :=
  ⟨nxt h.bel hb, h.ba.below hb, h.bb.below hb, h.br.below hb, by have := hb.size; have := h.sz; omega⟩
theorem ret_store {w W : World} {b : Nat} {n : Int} {e0 : Int} (h : Below w.heap.size w W) (hb : w.heap.size ≤ b) : CellR w (n, []) e0 (.returned (.tuple #[.agg #[.int .i64 n, .slice none 0 0], .int .i64 e0])) ((W.setCell ⟨b, 0, none⟩ (.int .i64 n)).setCell ⟨b, 1, none⟩ (.slice none 0 0)) :=
  ⟨⟨_, rfl, OwnC.num _ _ _⟩, below_set h hb _ _⟩
set_option maxHeartbeats 1000000 in
theorem join_any (agg bound : Int) (va vb : Value) (a b : Cl) (w : World) (ha : CS w va a) (hb : CS w vb b) (wa : WfC a) (wb : WfC b) (hla : a.2.length ≤ 50000) (hlb : b.2.length ≤ 50000) :
    Calls Tryz.prog 78 #[.int .i64 agg, .int .i64 bound, va, vb] w (CellR w (joinR agg bound a b).1 (joinR agg bound a b).2) := by
  obtain ⟨aa, ca, rfl, na⟩ := ha
  obtain ⟨ab, cb, rfl, nb⟩ := hb
  obtain ⟨W, hW⟩ : ∃ W : World, W = jw w a b (.slice aa a.2.length ca) (.slice ab b.2.length cb) := ⟨_, rfl⟩
  have hJ : JW w W a b (.slice aa a.2.length ca) (.slice ab b.2.length cb) := by rw [hW]; exact jw_ok _ _ _ _ _
  have H1 := hidM (check_any agg bound _ a W ⟨aa, ca, rfl, na.below hJ.bel⟩ (by omega))
  have H2 := hidM (fun W' (h : Below W.heap.size W W') => check_any agg bound _ b W' ⟨ab, cb, rfl, (nb.below hJ.bel).below h⟩ (by omega))
  have HJ := hidM hJ
  have HW := hidM (show ((w.alloc (.cells #[.int .i64 a.1, .slice aa a.2.length ca] 80)).alloc (.cells #[.int .i64 b.1, .slice ab b.2.length cb] 80)).alloc (.cells #[.int .i64 0, .slice none 0 0] 80) = W from hW.symm)
  have l1 := hJ.ba.load
  unfold joinR
  cases hca : chk agg bound a with
  | false =>
    rw [hca, show errC false = 1 from rfl] at H1
    simp only [Bool.false_and, Bool.false_eq_true, if_false]
    clear hJ hW
    have HA := hidM na
    have HN := hidM nb
    clear na nb
    go_enter Tryz.func78, Tryz.ntmps78
    go_wp2_with (go_at_call 75; rw [HW.out]; refine H1.out.mono ?_; rintro e W2 ⟨rfl, hb2⟩; obtain ⟨b2, ba2, bb2, br2, sz2⟩ := HJ.out.next hb2; obtain ⟨c0, c1, f0, f1⟩ := br2.cells; obtain ⟨-, c1', -, f1'⟩ := (br2.set0 0).cells)
    exact bodyPost_ret (results_cell2 rfl rfl br2.set.load) rfl (ret_store b2 (by omega))
  | true =>
    rw [hca, show errC true = 0 from rfl] at H1
    cases hcb : chk agg bound b with
    | false =>
      rw [hcb, show errC false = 1 from rfl] at H2
      simp only [Bool.and_false, Bool.false_eq_true, if_false]
      clear hJ hW
      have HA := hidM na
      have HN := hidM nb
      clear na nb
      go_enter Tryz.func78, Tryz.ntmps78
      go_wp2_with (go_at_call 75; rw [HW.out]; refine H1.out.mono ?_; rintro e W2 ⟨rfl, hb2⟩; obtain ⟨-, -, bb2, -, -⟩ := HJ.out.next hb2; obtain ⟨l0, l1, -, -⟩ := bb2.cells)
      go_wp2_with (go_at_call 75; refine (H2.out _ hb2).mono ?_; rintro e W3 ⟨rfl, hb3⟩; have hb3' := nxt hb2 hb3; obtain ⟨b3, ba3, bb3, br3, sz3⟩ := HJ.out.next hb3'; obtain ⟨c0, c1, f0, f1⟩ := br3.cells; obtain ⟨-, c1', -, f1'⟩ := (br3.set0 0).cells; obtain ⟨a0, a1, -, -⟩ := ba3.cells; obtain ⟨e0, e1, -, -⟩ := bb3.cells)
      exact bodyPost_ret (results_cell2 rfl rfl br3.set.load) rfl (ret_store b3 (by omega))
    | true =>
      rw [hcb, show errC true = 0 from rfl] at H2
      simp only [Bool.and_self, if_true]
      obtain ⟨hw, hma⟩ := chk_may hca
      obtain ⟨-, hmb⟩ := chk_may hcb
      obtain ⟨g1, g6, gb, gb32, gb1⟩ := wayC_bd hw
      obtain ⟨bd, rfl⟩ := Int.eq_ofNat_of_zero_le gb
      rw [Int.toNat_natCast] at hma hmb ⊢
      by_cases h6 : agg = 6
      · subst h6
        obtain ⟨-, hr, -⟩ := may_rise hmb
        have H3 := hidM (fun W' (h : Below W.heap.size W W') => joinSets_any bd _ _ a.2 b.2 W' ((na.below hJ.bel).below h) ((nb.below hJ.bel).below h) hr hla hlb)
        rw [show joinC 6 bd a b = joinS bd a.2 b.2 by unfold joinC joinS; rw [if_pos rfl]]
        generalize joinS bd a.2 b.2 = r at *
        clear hJ hW
        have HA := hidM na
        have HN := hidM nb
        clear na nb hr hma hmb hca hcb hw
        go_enter Tryz.func78, Tryz.ntmps78
        go_wp2_with (go_at_call 75; rw [HW.out]; refine H1.out.mono ?_; rintro e W2 ⟨rfl, hb2⟩; obtain ⟨-, -, bb2, -, -⟩ := HJ.out.next hb2; obtain ⟨l0, l1, -, -⟩ := bb2.cells)
        go_wp2_with (go_at_call 75; refine (H2.out _ hb2).mono ?_; rintro e W3 ⟨rfl, hb3⟩; have hb3' := nxt hb2 hb3; obtain ⟨b3, ba3, bb3, br3, sz3⟩ := HJ.out.next hb3'; obtain ⟨c0, c1, f0, f1⟩ := br3.cells; obtain ⟨-, c1', -, f1'⟩ := (br3.set0 r.1.1).cells; obtain ⟨a0, a1, -, -⟩ := ba3.cells; obtain ⟨e0, e1, -, -⟩ := bb3.cells)
        go_wp2_with (go_at_call 110; refine (H3.out _ hb3').mono ?_; rintro e W4 ⟨⟨v4, rfl, a4, c4, rfl, ho4⟩, hb4⟩; have hb4' := nxt hb3' hb4; obtain ⟨b4, ba4, bb4, br4, sz4⟩ := HJ.out.next hb4'; obtain ⟨k0, k1, p0, p1⟩ := br4.cells; obtain ⟨-, k1', -, p1'⟩ := (br4.set0 r.1.1).cells)
        exact bodyPost_ret (results_cell2 rfl rfl br4.set.load) rfl ⟨⟨_, rfl, _, _, rfl, (own_set ho4 (by omega) _ _).lower (by omega)⟩, below_set b4 (by omega) _ _⟩
      · obtain ⟨-, pa⟩ := may_num h6 hma
        obtain ⟨-, pb⟩ := may_num h6 hmb
        have H3 := hidM (fun W' => joinNumbers_any agg a.1 b.1 W' g1 (by omega) wa.1 wb.1 pa pb)
        rw [show joinC agg bd a b = ((nF agg a.1 b.1, []), 0) by unfold joinC; rw [if_neg h6]]
        generalize nF agg a.1 b.1 = r at *
        have h6' : (agg == 6) = false := by simpa using h6
        clear hJ hW
        have HA := hidM na
        have HN := hidM nb
        clear na nb hma hmb hca hcb hw pa pb
        go_enter Tryz.func78, Tryz.ntmps78
        go_wp2_with (go_at_call 75; rw [HW.out]; refine H1.out.mono ?_; rintro e W2 ⟨rfl, hb2⟩; obtain ⟨-, -, bb2, -, -⟩ := HJ.out.next hb2; obtain ⟨l0, l1, -, -⟩ := bb2.cells)
        go_wp2_with (go_at_call 75; refine (H2.out _ hb2).mono ?_; rintro e W3 ⟨rfl, hb3⟩; have hb3' := nxt hb2 hb3; obtain ⟨b3, ba3, bb3, br3, sz3⟩ := HJ.out.next hb3'; obtain ⟨c0, c1, f0, f1⟩ := br3.cells; obtain ⟨-, c1', -, f1'⟩ := (br3.set0 r).cells; obtain ⟨a0, a1, -, -⟩ := ba3.cells; obtain ⟨e0, e1, -, -⟩ := bb3.cells)
        go_wp2_with (go_at_call 111; refine (H3.out _).mono ?_; rintro e W4 ⟨rfl, rfl⟩)
        exact bodyPost_ret (results_cell2 rfl rfl br3.set.load) rfl (ret_store b3 (by omega))
end Go.Proofs.YtaagllbcmgnbnaaGreatDoor
/- One more is gathered: row's add. -/
namespace Go.Proofs.YtaagllbcmgnbnaaGreatDoor
open Go.RowKit Go.Maps
set_option linter.unusedVariables false
set_option maxRecDepth 100000

/-- What is gathered, in memory: the cells of st under their keys, the error. -/
structure Gat (w : World) (base gp mp : Nat) (agg bound : Int) (st : List Rw) (bad : Int) (n : Nat) : Prop where
  gb : w.heap[gp]? = some (.cells #[.int .i64 agg, .int .i64 bound, .map (some mp), .int .i64 bad] 104 (0, 0))
  mo : ∃ D, w.ownsMap Tryz.prog 66 RC mp n D ∧ MapC w base D st
  hg : base ≤ gp
  hm : base ≤ mp
theorem Gat.below {w w' : World} {base gp mp : Nat} {agg bound : Int} {st : List Rw} {bad : Int} {n : Nat} (h : Gat w base gp mp agg bound st bad n) (hb : Below w.heap.size w w') : Gat w' base gp mp agg bound st bad n := by
  obtain ⟨D, h1, h2⟩ := h.mo
  refine ⟨by rw [hb.block gp (Array.getElem?_eq_some_iff.1 h.gb).1]; exact h.gb, ⟨D, ?_, h2.keep (.below hb)⟩, h.hg, h.hm⟩
  obtain ⟨es, clock, hb1, r⟩ := h1
  exact ⟨es, clock, by rw [hb.block mp (Array.getElem?_eq_some_iff.1 hb1).1]; exact hb1, r⟩
theorem Gat.cells {w : World} {base gp mp : Nat} {agg bound : Int} {st : List Rw} {bad : Int} {n : Nat} (h : Gat w base gp mp agg bound st bad n) :
    w.cell? ⟨gp, 0, none⟩ = some (.int .i64 agg) ∧ w.cell? ⟨gp, 1, none⟩ = some (.int .i64 bound) ∧ w.cell? ⟨gp, 2, none⟩ = some (.map (some mp)) ∧ w.cell? ⟨gp, 3, none⟩ = some (.int .i64 bad) ∧ w.frozen? ⟨gp, 3, none⟩ = false := by
  have h := h.gb
  refine ⟨?_, ?_, ?_, ?_, ?_⟩ <;> simp [World.cell?, World.frozen?, h]
/-- What the lookup answers. -/
theorem look_no {W : World} {mp n : Nat} {D : DataW Value} {k : Ky} (hom : W.ownsMap Tryz.prog 66 RC mp n D) (hk : Good k) (hh : Maps.has D (klOf k) = false) :
    (Instr.lookup 102 (.map (some mp)) (keyV k) true).run Tryz.prog W = .ok (.tuple #[zC, .bool false]) W := by
  obtain ⟨v, ps, hrun, hv⟩ := hom.look_ok law Tryz.underlying102 (zeroC _) (zd := .held zC) (zp := []) rfl (key_mk hk)
  rw [atKey_of_not_has hh] at hv
  have := rc_held hv
  injection this with this
  rw [hrun, hh, ← this]
theorem look_yes {W : World} {mp n : Nat} {D : DataW Value} {k : Ky} {u : Value} (hom : W.ownsMap Tryz.prog 66 RC mp n D) (hk : Good k) (hat : ∀ z, D.atKey (klOf k) z = .held u) :
    (Instr.lookup 102 (.map (some mp)) (keyV k) true).run Tryz.prog W = .ok (.tuple #[u, .bool true]) W := by
  obtain ⟨v, ps, hrun, hv⟩ := hom.look_ok law Tryz.underlying102 (zeroC _) (zd := .held zC) (zp := []) rfl (key_mk hk)
  rw [hat] at hv
  have := rc_held hv
  injection this with this
  rw [hrun, has_true_of_atKey hat, ← this]
/-- An append whose run is known, at a step of a region that draws. -/
theorem step_append_run {P : Program} (w : World) {E : Prop} {ops : Array Oper} {o : Oper} {a : Act} {K : Act → World → Prop} {Q : Exit → Act → World → Prop} (hgd : o.guard = none) (s x : Operand) (t : TypeId)
    (ho : o.op = .call { callee := .builtin .append, args := #[s, x], argTypes := #[t, t] }) (v u v' : Value) (w' : World) (hs : a.eval s = v) (hx : a.eval x = u)
    (hr : (Builtin.append_ #[t, t] o.type #[v, u]).run P w = .ok v' w') (h : K (a.put o.dst v') w') : if Region.wanted o (yielded ops a.tmps) = true then Oper.wp P o a w K Q else E := by
  have hw : Region.wanted o (yielded ops a.tmps) = true := by simp [Region.wanted, hgd]
  rw [if_pos hw]
  unfold Oper.wp execOp
  simp only [ho, resolve, invoke, builtin, Sem.run_bind, Sem.run_pure, Result.andThen_ok, List.map_toArray, List.map_cons, List.map_nil, hs, hx, hr]
  exact h
theorem blk2 {W : World} {b : Nat} {u v : Value} {T : TypeId} (h : W.heap[b]? = some (.cells #[u, v] T (0, 0))) : W.cell? ⟨b, 0, none⟩ = some u ∧ W.cell? ⟨b, 1, none⟩ = some v := by
  refine ⟨?_, ?_⟩ <;> simp [World.cell?, h]
/-- The two boxes of add. -/
structure Bx (w W : World) (k : Ky) (n : Int) (v : Value) : Prop where
  bel : Below w.heap.size w W
  sz : W.heap.size = w.heap.size + 2
  bk : W.heap[w.heap.size]? = some (.cells #[.int .i64 k.1, .string k.2] 66 (0, 0))
  bc : BlkC W (w.heap.size + 1) n v
theorem bx_ok (w : World) (k : Ky) (n : Int) (v : Value) : Bx w ((w.alloc (.cells #[.int .i64 k.1, .string k.2] 66)).alloc (.cells #[.int .i64 n, v] 80)) k n v := by
  have st : ∀ (W : World) (o : Obj), Below W.heap.size W (W.alloc o) := fun W o => (Below.refl _ _).alloc (Nat.le_refl _) _
  refine ⟨nxt (st _ _) (st _ _), by simp, ?_, ?_⟩
  · rw [(st _ _).block _ (by simp)]
    exact heap_alloc_new w _
  · have := BlkC.new (w.alloc (.cells #[.int .i64 k.1, .string k.2] 66)) n v
    simpa using this
/-- A map's block holds no row of numbers. -/
theorem keep_map {W W' : World} {mp n : Nat} {D : DataW Value} (hom : W.ownsMap Tryz.prog 66 RC mp n D) (hg : W.grownBy W' (some mp)) : Keep2 W W' := by
  obtain ⟨es, clock, hb, _⟩ := hom
  refine Keep2.grown hg fun g cur e hh => ?_
  injection e with e
  subst e
  rw [hb] at hh
  cases hh
/-- One more under its key, in memory. -/
theorem Gat.put {W W' : World} {base gp mp n : Nat} {agg bound : Int} {st st' : List Rw} {bad : Int} {D : DataW Value} {x : Ky} {c : Cl} {s : Sl} (h : Gat W base gp mp agg bound st bad n) (hom : W.ownsMap Tryz.prog 66 RC mp n D) (hmc : MapC W base D st)
    (hom' : W'.ownsMap Tryz.prog 66 RC mp (n + 1) (D.put (klOf x) (.held (cellV c.1 s)))) (hg : W.grownBy W' (some mp)) (hx : Good x) (hs : OwnL W base (slV s) c.2)
    (hlen : st'.length = if (look st x).isSome then st.length else st.length + 1) (hl : ∀ y, look st' y = if y = x then some c else look st y) : Gat W' base gp mp agg bound st' bad (n + 1) ∧ gp ≠ mp := by
  have hk := keep_map hom hg
  have hne : gp ≠ mp := by
    obtain ⟨es, clock, hb, _⟩ := hom
    intro e
    subst e
    rw [h.gb] at hb
    cases hb
  refine ⟨⟨(hg.block gp (Array.getElem?_eq_some_iff.1 h.gb).1 (fun e => hne (by injection e))).trans h.gb, ⟨_, hom', (hmc.keep hk).put hx (hs.keep hk) hlen hl⟩, h.hg, h.hm⟩, hne⟩
set_option maxHeartbeats 1000000 in
theorem add_new (gp mp base n : Nat) (agg bound : Int) (st : List Rw) (bad : Int) (k : Ky) (c : Cl) (a : Option Addr) (cap : Nat) (w : World) (h : Gat w base gp mp agg bound st bad n) (hb : base ≤ w.heap.size) (hn : n < 1000000)
    (hk : Good k) (hc : NS w (.slice a c.2.length cap) c.2) (hl : c.2.length ≤ 32) (hlook : look st k = none) (hr : RiseK st) :
    Calls Tryz.prog 49 #[.pointer (some ⟨gp, 0, none⟩), keyV k, .agg #[.int .i64 c.1, .slice a c.2.length cap]] w fun e w' =>
      e = .returned (.tuple #[]) ∧ Gat w' base gp mp agg bound (putR (joinC agg bound.toNat) k c st).1 bad (n + 1) ∧ Below base w w' := by
  obtain ⟨D, hom, hmc⟩ := h.mo
  obtain ⟨ka, kb⟩ := k
  obtain ⟨c1, c2⟩ := c
  have hno := hmc.non _ hk hlook
  simp only at hc hl ⊢
  simp only [keyV]
  obtain ⟨W0, hW0⟩ : ∃ W0 : World, W0 = (w.alloc (.cells #[.int .i64 ka, .string kb] 66)).alloc (.cells #[.int .i64 c1, .slice a c2.length cap] 80) := ⟨_, rfl⟩
  have hbx : Bx w W0 (ka, kb) c1 (.slice a c2.length cap) := by rw [hW0]; exact bx_ok w (ka, kb) _ _
  obtain ⟨hb0, hs0, bk, bc⟩ := hbx
  obtain ⟨k0, k1⟩ := blk2 bk
  obtain ⟨l0, l1, -, -⟩ := bc.cells
  have h0 := h.below hb0
  obtain ⟨g0, g1, g2, g3, g4⟩ := h0.cells
  obtain ⟨D0, hom0, hmc0⟩ := h0.mo
  have hno0 := hmc0.non _ hk hlook
  obtain ⟨Wz, hWz⟩ : ∃ Wz : World, Wz = W0.alloc (.cells #[.int .i64 0, .slice none 0 0] 80) := ⟨_, rfl⟩
  have hbz : Below W0.heap.size W0 Wz := by rw [hWz]; exact (Below.refl _ _).alloc (Nat.le_refl _) _
  have hz := h0.below hbz
  obtain ⟨y0, y1, y2, y3, y4⟩ := hz.cells
  obtain ⟨Dz, homz, hmcz⟩ := hz.mo
  have kz0 : Wz.cell? ⟨w.heap.size, 0, none⟩ = _ := (hbz.cell (p := ⟨w.heap.size, 0, none⟩) (by show w.heap.size < _; omega)).trans k0
  have kz1 : Wz.cell? ⟨w.heap.size, 1, none⟩ = _ := (hbz.cell (p := ⟨w.heap.size, 1, none⟩) (by show w.heap.size < _; omega)).trans k1
  have lz0 : Wz.cell? ⟨w.heap.size + 1, 0, none⟩ = _ := (hbz.cell (p := ⟨w.heap.size + 1, 0, none⟩) (by show w.heap.size + 1 < _; omega)).trans l0
  have lz1 : Wz.cell? ⟨w.heap.size + 1, 1, none⟩ = _ := (hbz.cell (p := ⟨w.heap.size + 1, 1, none⟩) (by show w.heap.size + 1 < _; omega)).trans l1
  have r1 := look_no hom0.drew hk hno0
  have r2 := look_no homz.drew hk (hmcz.non _ hk hlook)
  rw [hWz] at r2
  simp only [keyV] at r1 r2
  have HW := hidM hW0.symm
  have HZ := hidM hWz.symm
  have Y := hidM (And.intro y2 (And.intro kz0 kz1))
  -- the copy, and what the map is then
  have hbz' : Below w.heap.size w Wz := nxt hb0 hbz
  obtain ⟨v2, W2, q1, q2, q3, -⟩ := append_ns (W := Wz.drew.drew) (base := base) 78 (OwnL.nil Wz.drew.drew base) (hc.below hbz'.drew.drew) (by simp; omega) (by have := hbz'.size; show base ≤ Wz.heap.size; omega)
  rw [List.nil_append] at q2
  obtain ⟨s2a, s2c, rfl⟩ := q2.shape
  have hb2 : Below Wz.heap.size Wz W2 := ((Below.refl Wz.heap.size Wz).drew.drew).grown q3 (Nat.le_refl _) (fun k hk => by cases hk)
  have hz2 := hz.below hb2
  obtain ⟨D2, hom2, hmc2⟩ := hz2.mo
  obtain ⟨W3, q4, hom3, q5⟩ := hom2.update law Tryz.underlying102 (by unfold maxLen; omega) (key_mk hk) (show RC (cellV c1 (s2a, c2.length, s2c)) = some (.held (cellV c1 (s2a, c2.length, s2c)), []) from rfl)
  obtain ⟨hG3, hne⟩ := hz2.put (st' := (putR (joinC agg bound.toNat) (ka, kb) (c1, c2) st).1) (c := (c1, c2)) (s := (s2a, c2.length, s2c)) hom2 hmc2 hom3 q5 hk q2 (len_putR hr) (fun y => by rw [look_putR hr, hlook]; rfl)
  have hmlt : mp < w.heap.size := hom.lt
  have hglt : gp < w.heap.size := (Array.getElem?_eq_some_iff.1 h.gb).1
  have hb3 : Below base w W3 := ((nxt hbz' hb2).mono hb).grown q5 (by have := (nxt hbz' hb2).size; omega) (fun k hk => by injection hk with hk; subst hk; exact h.hm)
  have far : ∀ b o : Nat, b < W2.heap.size → b ≠ mp → W3.cell? ⟨b, o, none⟩ = W2.cell? ⟨b, o, none⟩ := fun b o hlt hn => q5.cell_far ⟨b, o, none⟩ hlt (fun e => hn (by injection e))
  have Q1 := hidM q1
  have Y2 := hidM (show W2.cell? ⟨gp, 2, none⟩ = some (.map (some mp)) ∧ W2.cell? ⟨w.heap.size, 0, none⟩ = some (.int .i64 ka) ∧ W2.cell? ⟨w.heap.size, 1, none⟩ = some (.string kb) ∧ W2.cell? ⟨w.heap.size + 1, 0, none⟩ = some (.int .i64 c1) ∧ W2.cell? ⟨w.heap.size + 1, 1, none⟩ = some (.slice a c2.length cap) from
    have hsz := hbz.size
    ⟨hz2.cells.2.2.1, (hb2.cell (p := ⟨w.heap.size, 0, none⟩) (by show w.heap.size < _; omega)).trans kz0, (hb2.cell (p := ⟨w.heap.size, 1, none⟩) (by show w.heap.size < _; omega)).trans kz1, (hb2.cell (p := ⟨w.heap.size + 1, 0, none⟩) (by show w.heap.size + 1 < _; omega)).trans lz0, (hb2.cell (p := ⟨w.heap.size + 1, 1, none⟩) (by show w.heap.size + 1 < _; omega)).trans lz1⟩)
  have Y3 := hidM (show W3.cell? ⟨gp, 2, none⟩ = some (.map (some mp)) ∧ W3.cell? ⟨w.heap.size, 0, none⟩ = some (.int .i64 ka) ∧ W3.cell? ⟨w.heap.size, 1, none⟩ = some (.string kb) ∧ W3.cell? ⟨w.heap.size + 1, 0, none⟩ = some (.int .i64 c1) ∧ W3.cell? ⟨w.heap.size + 1, 1, none⟩ = some (.slice a c2.length cap) from
    have hsz := hbz.size
    have hsz2 := hb2.size
    ⟨(far _ _ (by omega) hne).trans Y2.out.1, (far _ _ (by omega) (by omega)).trans Y2.out.2.1, (far _ _ (by omega) (by omega)).trans Y2.out.2.2.1, (far _ _ (by omega) (by omega)).trans Y2.out.2.2.2.1, (far _ _ (by omega) (by omega)).trans Y2.out.2.2.2.2⟩)
  have FIN := hidM (And.intro hG3 hb3)
  clear hW0 hWz q1 far hG3 hb3 q5 hom3 hmc2 hom2 q2 q3 hmcz homz hmc0 hom0 hom hmc hz2 hz h0
  go_enter Tryz.func49, Tryz.ntmps49
  go_wp2_with fail
  rw [HW.out]
  go_region_held3 (fun W' => W'.cell? ⟨gp, 2, none⟩ = some (.map (some mp)) ∧ W'.cell? ⟨w.heap.size, 0, none⟩ = some (.int .i64 ka) ∧ W'.cell? ⟨w.heap.size, 1, none⟩ = some (.string kb))
    (first | exact ⟨g2, k0, k1⟩ | (rw [HZ.out]; exact Y.out))
    (fail)
  all_goals
    rw [HZ.out]
    go_wp2_with fail
    go_region_held3 (fun W' => W'.cell? ⟨gp, 2, none⟩ = some (.map (some mp)) ∧ W'.cell? ⟨w.heap.size, 0, none⟩ = some (.int .i64 ka) ∧ W'.cell? ⟨w.heap.size, 1, none⟩ = some (.string kb) ∧ W'.cell? ⟨w.heap.size + 1, 0, none⟩ = some (.int .i64 c1) ∧ W'.cell? ⟨w.heap.size + 1, 1, none⟩ = some (.slice a c2.length cap))
      (first | exact ⟨y2, kz0, kz1, lz0, lz1⟩ | exact Y2.out | exact Y3.out)
      (refine step_append_run _ (by rfl) _ _ _ (by rfl) _ _ _ W2 (by rfl) (by rfl) Q1.out ?_)
    all_goals
      go_wp2
      refine bodyPost_ret (results_none rfl _ _ _) rfl ?_
      exact ⟨rfl, FIN.out⟩
end Go.Proofs.YtaagllbcmgnbnaaGreatDoor
