/- The page's own: the rows of each partition. -/
import Derived.Test.YtejgcflcckjlpaaDoorOC45
import Derived.Test.YtejgcflcckjlpaaDoorOC38M
import Derived.Test.YtejgcflcckjlpaaDoorOC43
import Derived.Test.YtejgcflcckjlpaaDoorOC32M
namespace Go.Proofs.YtejgcflcckjlpaaDoor
open Go.RowKit
set_option linter.unusedVariables false
set_option maxRecDepth 100000

set_option maxHeartbeats 3200000 in
theorem rparts_any (n : Int) (v : Value) (l : List Rw) (w : World) (h : WS w v l) (hl : l.length ≤ 100000) (hls : ∀ r ∈ l, r.2.2.length ≤ 100000) (hwf : WfRs l) (hm : mayP n = true) (hkeys : ∀ r ∈ l, r.1.2.size ≤ 64) :
    Calls Tryd.prog 13 #[v, .int .i64 n] w fun e w' => (∃ v', e = .returned v' ∧ OwnRs w' w.heap.size v' (prt n l)) ∧ Below w.heap.size w w' := by
  obtain ⟨va, vc, rfl, hsh⟩ := h
  have hm8 := mayP_of hm
  obtain ⟨N, rfl⟩ : ∃ N : Nat, n = (N : Int) := ⟨n.toNat, by omega⟩
  obtain ⟨W3, hmk, hP0, hb03⟩ := OwnP.start w w.heap.size N (Nat.le_refl _) (by omega)
  obtain ⟨g, hg⟩ : ∃ g, g = w.heap.size := ⟨_, rfl⟩
  have hP0' : OwnP W3 w.heap.size g N (prt (N : Int) (l.take 0)) := by
    have e : prt (N : Int) (l.take 0) = List.replicate N [] := by rw [List.take_zero, prt_nil, Int.toNat_natCast]
    rw [e, hg]
    exact hP0
  go_enter Tryd.func13, Tryd.ntmps13
  go_wp2
  rw [← hg]
  clear hP0 hmk hg
  go_loopw [6] (fun i wr => ∃ k : Nat, k ≤ l.length ∧ i = .int .i64 k ∧ OwnP wr w.heap.size g N (prt (N : Int) (l.take k)) ∧ Below w.heap.size w wr) (fun i _ => l.length - (intOf i).toNat)
  case atStart => exact ⟨0, by omega, rfl, hP0', hb03⟩
  case round =>
    clear hP0' hb03
    rename World => w0
    obtain ⟨k, hk, rfl, hP, hbel⟩ := hrel
    have hsz := hbel.size
    by_cases hlt : k < l.length
    · obtain ⟨⟨⟨ya, yb⟩, yn, yl⟩, hy⟩ := getSome hlt
      rcases hsh with rfl | ⟨b, off, rfl, hb, hat⟩
      · simp at hlt
      obtain ⟨c0, c1, c2, s1, p1, c3, n1⟩ := (hat.below hbel hb) k _ hy
      simp only at c0 c1 c2 c3 n1
      have hst : ∀ (W : World) (o : Obj), Below W.heap.size W (W.alloc o) := fun W o => (Below.refl _ _).alloc (Nat.le_refl _) _
      have hkey := hkeys _ (List.mem_of_getElem? hy)
      have hnum := (hwf _ (List.mem_of_getElem? hy)).k.1
      have hset := hls _ (List.mem_of_getElem? hy)
      simp only at hkey hnum hset
      obtain ⟨p, hp⟩ : ∃ p, p = ofP (N : Int) (ya, yb) := ⟨_, rfl⟩
      have hpN : p < N := by have := ofP_lt hm (ya, yb); rw [← hp, Int.toNat_natCast] at this; exact this
      have hpi0 : (0 : Int) ≤ (p : Int) := by omega
      have hpi1 : (p : Int) < (N : Int) := by omega
      obtain ⟨hat1, hset1⟩ := prt_put (n := (N : Int)) (r := ((ya, yb), (yn, yl))) hy hp.symm (by rw [Int.toNat_natCast]; exact hpN)
      obtain ⟨ua, um, uc, hu0, -⟩ := hP.at hpN
      have hgl := hP.lt
      have hlen1 : (partR (ofP (N : Int)) (l.take k) p).length ≤ 100000 := by have := partR_len (ofP (N : Int)) (l.take k) p; rw [List.length_take] at this; omega
      have HC := hidM (fun W (hW : Below w0.heap.size w0 W) => copyRow_any (ya, yb) yn yl s1 p1 W (n1.below hW) hset)
      have HU := hidM (show ∀ W, Below w0.heap.size w0 W → W.cell? ⟨g, p, none⟩ = some (.slice ua um uc) from fun W hW => (hW.cell (p := ⟨g, p, none⟩) hgl.2).trans hu0)
      have HT := hidM (show ∀ (W2 : World) (s2 : Sl), Below w0.heap.size w0 W2 → OwnL W2 w0.heap.size (slV s2) yl →
          (W2.alloc (.cells #[.int .i64 ya, .string yb, .int .i64 yn, slV s2] 57)).cell? ⟨g, p, none⟩ = some (.slice ua um uc) ∧ ∃ v4 W4, (Builtin.append_ #[40, 40] 40 #[.slice ua um uc, .slice (some ⟨W2.heap.size, 0, none⟩) 1 1]).run Tryd.prog (W2.alloc (.cells #[.int .i64 ya, .string yb, .int .i64 yn, slV s2] 57)) = .ok v4 W4 ∧ W4.frozen? ⟨g, p, none⟩ = false ∧ (∃ u', W4.cell? ⟨g, p, none⟩ = some u') ∧ (∃ a m c, v4 = .slice a m c) ∧ OwnP (W4.setCell ⟨g, p, none⟩ v4) w.heap.size g N (prt (N : Int) (l.take (k + 1))) ∧ Below w.heap.size w (W4.setCell ⟨g, p, none⟩ v4) from fun W2 s2 hb2 ho2 => by
        have G3 := nxt hb2 (hst W2 (.cells #[.int .i64 ya, .string yb, .int .i64 yn, slV s2] 57))
        have O3 := ho2.below (hst W2 (.cells #[.int .i64 ya, .string yb, .int .i64 yn, slV s2] 57))
        have hu3 := HU.out _ G3
        obtain ⟨v4, W4, q1, q2, q3, q4, q5, q6⟩ := (hP.below G3).put (p := p) 40 hat1 hu3 (XS.new W2 ((ya, yb), yn, s2)) (⟨rfl, rfl, O3.lower hsz⟩ : IsW _ w.heap.size ((ya, yb), yn, s2) ((ya, yb), (yn, yl))) hlen1 (by have := G3.size; omega)
        refine ⟨hu3, v4, W4, q1, q2, q4, q3, ?_, (hbel.trans (G3.mono hsz)).trans q6⟩
        rw [← hset1]
        exact q5)
      have hblt : b < w0.heap.size := by omega
      have HCL := hidM (show ∀ W, Below w0.heap.size w0 W → W.cell? ⟨b, off + k * 4, none⟩ = some (.int .i64 ya) ∧ W.cell? ⟨b, off + k * 4 + 1, none⟩ = some (.string yb) ∧ W.cell? ⟨b, off + k * 4 + 2, none⟩ = some (.int .i64 yn) ∧ W.cell? ⟨b, off + k * 4 + 3, none⟩ = some (.slice s1 yl.length p1) from fun W hW =>
        ⟨(hW.cell (p := ⟨b, _, none⟩) hblt).trans c0, (hW.cell (p := ⟨b, _, none⟩) hblt).trans c1, (hW.cell (p := ⟨b, _, none⟩) hblt).trans c2, (hW.cell (p := ⟨b, _, none⟩) hblt).trans c3⟩)
      have HF := hidM (rof_any (N : Int) (ya, yb) w0 hnum.1 hnum.2 hkey hm)
      rw [← hp] at HF
      have hki0 : (0 : Int) ≤ (k : Int) := by omega
      have hki1 : (k : Int) < (l.length : Int) := by omega
      clear hbel hat n1 hy hP hat1 hset1 hp hu0 hgl hlen1 hst hkey hnum hset hkeys hwf hls
      go_wp2_with (first
        | (go_at_call 8; refine HF.out.mono ?_; rintro e W1 ⟨rfl, hb1⟩; obtain ⟨d0, d1, d2, d3⟩ := HCL.out W1 hb1; have hu1 := HU.out W1 hb1))
      refine wp_region_any (by kernel_rfl) ?_
      change wpAny _ _ _ _ _ _ _ (World.drew _)
      refine wpAny_take (i := 0) (oi := { dst := some 23, op := Go.Op.move (Go.Operand.tmp 5), type := 22, pos := "thresherref11.go:29", after := #[], guard := none }) (v := ?v0y10) rfl (by kernel_rfl) (by kernel_rfl) (by kernel_rfl) (fun _ _ _ h => h) (Or.inl ⟨by rfl, ?h0y10⟩) ?r0y10
      case h0y10 => (intro W; go_simp; try with_reducible rfl)
      simp only [Act.put, List.setIfInBounds_toArray, List.set_cons_zero, List.set_cons_succ]
      refine wpAny_take (i := 1) (oi := { dst := some 24, op := Go.Op.move (Go.Operand.tmp 7), type := 3, pos := "thresherref11.go:29", after := #[], guard := none }) (v := ?v1y11) rfl (by kernel_rfl) (by kernel_rfl) (by kernel_rfl) (fun _ _ _ h => h) (Or.inl ⟨by rfl, ?h1y11⟩) ?r1y11
      case h1y11 => (intro W; go_simp; try with_reducible rfl)
      simp only [Act.put, List.setIfInBounds_toArray, List.set_cons_zero, List.set_cons_succ]
      refine wpAny_take (i := 2) (oi := { dst := some 25, op := Go.Op.move (Go.Operand.tmp 5), type := 22, pos := "thresherref11.go:29", after := #[], guard := none }) (v := ?v2y12) rfl (by kernel_rfl) (by kernel_rfl) (by kernel_rfl) (fun _ _ _ h => h) (Or.inl ⟨by rfl, ?h2y12⟩) ?r2y12
      case h2y12 => (intro W; go_simp; try with_reducible rfl)
      simp only [Act.put, List.setIfInBounds_toArray, List.set_cons_zero, List.set_cons_succ]
      refine wpAny_take (i := 3) (oi := { dst := some 26, op := Go.Op.move (Go.Operand.tmp 7), type := 3, pos := "thresherref11.go:29", after := #[], guard := none }) (v := ?v3y13) rfl (by kernel_rfl) (by kernel_rfl) (by kernel_rfl) (fun _ _ _ h => h) (Or.inl ⟨by rfl, ?h3y13⟩) ?r3y13
      case h3y13 => (intro W; go_simp; try with_reducible rfl)
      simp only [Act.put, List.setIfInBounds_toArray, List.set_cons_zero, List.set_cons_succ]
      refine wpAny_take (i := 4) (oi := { dst := some 27, op := Go.Op.indexAddr 22 (Go.Operand.tmp 25) (Go.Operand.tmp 26), type := 0, pos := "thresherref11.go:29", after := #[{ on := 2, ground := Go.Ground.data }, { on := 3, ground := Go.Ground.data }], guard := none }) (v := ?v4y14) rfl (by kernel_rfl) (by kernel_rfl) (by kernel_rfl) (fun _ _ _ h => h) (Or.inl ⟨by rfl, ?h4y14⟩) ?r4y14
      case h4y14 => (intro W; go_simp; try with_reducible rfl)
      simp only [Act.put, List.setIfInBounds_toArray, List.set_cons_zero, List.set_cons_succ]
      refine wpAny_take (i := 6) (oi := { dst := some 29, op := Go.Op.move (Go.Operand.tmp 0), type := 40, pos := "thresherref11.go:29", after := #[], guard := none }) (v := ?v6y15) rfl (by kernel_rfl) (by kernel_rfl) (by kernel_rfl) (fun _ _ _ h => h) (Or.inl ⟨by rfl, ?h6y15⟩) ?r6y15
      case h6y15 => (intro W; go_simp; try with_reducible rfl)
      simp only [Act.put, List.setIfInBounds_toArray, List.set_cons_zero, List.set_cons_succ]
      refine wpAny_take (i := 7) (oi := { dst := some 30, op := Go.Op.move (Go.Operand.tmp 6), type := 3, pos := "thresherref11.go:29", after := #[], guard := none }) (v := ?v7y16) rfl (by kernel_rfl) (by kernel_rfl) (by kernel_rfl) (fun _ _ _ h => h) (Or.inl ⟨by rfl, ?h7y16⟩) ?r7y16
      case h7y16 => (intro W; go_simp; try with_reducible rfl)
      simp only [Act.put, List.setIfInBounds_toArray, List.set_cons_zero, List.set_cons_succ]
      refine wpAny_take (i := 8) (oi := { dst := some 31, op := Go.Op.indexAddr 40 (Go.Operand.tmp 29) (Go.Operand.tmp 30), type := 0, pos := "thresherref11.go:29", after := #[{ on := 6, ground := Go.Ground.data }, { on := 7, ground := Go.Ground.data }], guard := none }) (v := ?v8y17) rfl (by kernel_rfl) (by kernel_rfl) (by kernel_rfl) (fun _ _ _ h => h) (Or.inl ⟨by rfl, ?h8y17⟩) ?r8y17
      case h8y17 => (intro W; go_simp; try with_reducible rfl)
      simp only [Act.put, List.setIfInBounds_toArray, List.set_cons_zero, List.set_cons_succ]
      refine wpAny_ready (rs := [5, 9]) (by kernel_rfl) (by simp) ?_
      refine AllReady.cons (o := { dst := some 28, op := Go.Op.load 40 (Go.Operand.tmp 27), type := 40, pos := "thresherref11.go:29", after := #[{ on := 4, ground := Go.Ground.data }], guard := none }) rfl (fun K hK => ?_) (AllReady.cons (o := { dst := some 32, op := Go.Op.load 57 (Go.Operand.tmp 31), type := 57, pos := "thresherref11.go:29", after := #[{ on := 8, ground := Go.Ground.data }], guard := none }) rfl (fun K hK => ?_) AllReady.nil)
      · go_simp
        refine hK _ _ ?_
        clear hK K
        try simp only [Act.put, List.setIfInBounds_toArray, List.set_cons_zero, List.set_cons_succ]
        refine wpAny_ready (rs := [9]) (by kernel_rfl) (by simp) ?_
        refine AllReady.cons (o := { dst := some 32, op := Go.Op.load 57 (Go.Operand.tmp 31), type := 57, pos := "thresherref11.go:29", after := #[{ on := 8, ground := Go.Ground.data }], guard := none }) rfl (fun K hK => ?_) AllReady.nil
        go_simp
        refine hK _ _ ?_
        clear hK K
        try simp only [Act.put, List.setIfInBounds_toArray, List.set_cons_zero, List.set_cons_succ]
        refine wpAny_ready (rs := [10]) (by kernel_rfl) (by simp) ?_
        refine AllReady.cons (o := { dst := some 33, op := Go.Op.call { callee := Go.Callee.value (Go.Operand.func 24), args := #[Go.Operand.tmp 32], argTypes := #[57] }, type := 57, pos := "thresherref11.go:29", after := #[{ on := 9, ground := Go.Ground.data }], guard := none }) rfl (fun K hK => ?_) AllReady.nil
        go_simp
        refine (HC.out _ (hb1.drew)).mono ?_
        rintro e W2 ⟨⟨⟨s2a, s2b, s2c⟩, rfl, ho2⟩, hb2⟩
        have hb02 := nxt (hb1.drew) hb2
        obtain ⟨hu3, v4, W4, hap, hfz, ⟨u5, hu5⟩, ⟨va4, vm4, vc4, rfl⟩, hP4, hb4⟩ := HT.out W2 (s2a, s2b, s2c) hb02 (ho2.lower (hb1.drew).size)
        have hu2 := HU.out W2 hb02
        have HP4 := hidM hP4
        have HB4 := hidM hb4
        have HAP := hidM hap
        clear hP4 hb4 hap ho2 hb2
        refine hK _ _ ?_
        clear hK K
        try simp only [Act.put, List.setIfInBounds_toArray, List.set_cons_zero, List.set_cons_succ]
        refine wpAny_ready (rs := [11]) (by kernel_rfl) (by simp) ?_
        refine AllReady.cons (o := { dst := some 34, op := Go.Op.buildSlice 40 1 #[(0, Go.Operand.tmp 33)], type := 40, pos := "thresherref11.go:29", after := #[{ on := 10, ground := Go.Ground.data }], guard := none }) rfl (fun K hK => ?_) AllReady.nil
        go_simp
        refine hK _ _ ?_
        clear hK K
        try simp only [Act.put, List.setIfInBounds_toArray, List.set_cons_zero, List.set_cons_succ]
        refine wpAny_ready (rs := [12]) (by kernel_rfl) (by simp) ?_
        refine AllReady.cons (o := { dst := some 35, op := Go.Op.call { callee := Go.Callee.builtin Go.Builtin.append, args := #[Go.Operand.tmp 28, Go.Operand.tmp 34], argTypes := #[40, 40] }, type := 40, pos := "thresherref11.go:29", after := #[{ on := 5, ground := Go.Ground.data }, { on := 11, ground := Go.Ground.data }, { on := 10, ground := Go.Ground.chain }], guard := none }) rfl (fun K hK => ?_) AllReady.nil
        refine step_append_run _ rfl _ _ _ rfl (.slice ua um uc) _ _ W4 rfl rfl HAP.out ?_
        refine hK _ _ ?_
        clear hK K
        try simp only [Act.put, List.setIfInBounds_toArray, List.set_cons_zero, List.set_cons_succ]
        refine wpAny_take (i := 13) (oi := { dst := some 36, op := Go.Op.indexAddr 22 (Go.Operand.tmp 23) (Go.Operand.tmp 24), type := 0, pos := "thresherref11.go:29", after := #[{ on := 0, ground := Go.Ground.data }, { on := 1, ground := Go.Ground.data }, { on := 0, ground := Go.Ground.phase }, { on := 1, ground := Go.Ground.phase }, { on := 2, ground := Go.Ground.phase }, { on := 3, ground := Go.Ground.phase }, { on := 4, ground := Go.Ground.phase }, { on := 5, ground := Go.Ground.phase }, { on := 6, ground := Go.Ground.phase }, { on := 7, ground := Go.Ground.phase }, { on := 8, ground := Go.Ground.phase }, { on := 9, ground := Go.Ground.phase }, { on := 10, ground := Go.Ground.phase }, { on := 11, ground := Go.Ground.phase }, { on := 12, ground := Go.Ground.phase }], guard := none }) (v := ?v13y18) rfl (by kernel_rfl) (by kernel_rfl) (by kernel_rfl) (fun _ _ _ h => h) (Or.inl ⟨by rfl, ?h13y18⟩) ?r13y18
        case h13y18 => (intro W; go_simp; try with_reducible rfl)
        simp only [Act.put, List.setIfInBounds_toArray, List.set_cons_zero, List.set_cons_succ]
        refine wpAny_ready (rs := [14]) (by kernel_rfl) (by simp) ?_
        refine AllReady.cons (o := { dst := none, op := Go.Op.store 40 (Go.Operand.tmp 36) (Go.Operand.tmp 35), type := 0, pos := "thresherref11.go:29", after := #[{ on := 13, ground := Go.Ground.data }, { on := 12, ground := Go.Ground.data }, { on := 12, ground := Go.Ground.chain }, { on := 0, ground := Go.Ground.phase }, { on := 1, ground := Go.Ground.phase }, { on := 2, ground := Go.Ground.phase }, { on := 3, ground := Go.Ground.phase }, { on := 4, ground := Go.Ground.phase }, { on := 5, ground := Go.Ground.phase }, { on := 6, ground := Go.Ground.phase }, { on := 7, ground := Go.Ground.phase }, { on := 8, ground := Go.Ground.phase }, { on := 9, ground := Go.Ground.phase }, { on := 10, ground := Go.Ground.phase }, { on := 11, ground := Go.Ground.phase }, { on := 12, ground := Go.Ground.phase }], guard := none }) rfl (fun K hK => ?_) AllReady.nil
        go_simp
        refine hK _ _ ?_
        clear hK K
        try simp only [Act.put, List.setIfInBounds_toArray, List.set_cons_zero, List.set_cons_succ]
        refine wpAny_done (by kernel_rfl) ?_ _
        go_wp2
        go_roundw
        case rel => exact ⟨k + 1, by omega, by go_num, HP4.out, HB4.out⟩
        case measure => simp [intOf]; omega
      · go_simp
        refine hK _ _ ?_
        clear hK K
        try simp only [Act.put, List.setIfInBounds_toArray, List.set_cons_zero, List.set_cons_succ]
        refine wpAny_ready (rs := [5, 10]) (by kernel_rfl) (by simp) ?_
        refine AllReady.cons (o := { dst := some 28, op := Go.Op.load 40 (Go.Operand.tmp 27), type := 40, pos := "thresherref11.go:29", after := #[{ on := 4, ground := Go.Ground.data }], guard := none }) rfl (fun K hK => ?_) (AllReady.cons (o := { dst := some 33, op := Go.Op.call { callee := Go.Callee.value (Go.Operand.func 24), args := #[Go.Operand.tmp 32], argTypes := #[57] }, type := 57, pos := "thresherref11.go:29", after := #[{ on := 9, ground := Go.Ground.data }], guard := none }) rfl (fun K hK => ?_) AllReady.nil)
        · go_simp
          refine hK _ _ ?_
          clear hK K
          try simp only [Act.put, List.setIfInBounds_toArray, List.set_cons_zero, List.set_cons_succ]
          refine wpAny_ready (rs := [10]) (by kernel_rfl) (by simp) ?_
          refine AllReady.cons (o := { dst := some 33, op := Go.Op.call { callee := Go.Callee.value (Go.Operand.func 24), args := #[Go.Operand.tmp 32], argTypes := #[57] }, type := 57, pos := "thresherref11.go:29", after := #[{ on := 9, ground := Go.Ground.data }], guard := none }) rfl (fun K hK => ?_) AllReady.nil
          go_simp
          refine (HC.out _ (hb1.drew)).mono ?_
          rintro e W2 ⟨⟨⟨s2a, s2b, s2c⟩, rfl, ho2⟩, hb2⟩
          have hb02 := nxt (hb1.drew) hb2
          obtain ⟨hu3, v4, W4, hap, hfz, ⟨u5, hu5⟩, ⟨va4, vm4, vc4, rfl⟩, hP4, hb4⟩ := HT.out W2 (s2a, s2b, s2c) hb02 (ho2.lower (hb1.drew).size)
          have hu2 := HU.out W2 hb02
          have HP4 := hidM hP4
          have HB4 := hidM hb4
          have HAP := hidM hap
          clear hP4 hb4 hap ho2 hb2
          refine hK _ _ ?_
          clear hK K
          try simp only [Act.put, List.setIfInBounds_toArray, List.set_cons_zero, List.set_cons_succ]
          refine wpAny_ready (rs := [11]) (by kernel_rfl) (by simp) ?_
          refine AllReady.cons (o := { dst := some 34, op := Go.Op.buildSlice 40 1 #[(0, Go.Operand.tmp 33)], type := 40, pos := "thresherref11.go:29", after := #[{ on := 10, ground := Go.Ground.data }], guard := none }) rfl (fun K hK => ?_) AllReady.nil
          go_simp
          refine hK _ _ ?_
          clear hK K
          try simp only [Act.put, List.setIfInBounds_toArray, List.set_cons_zero, List.set_cons_succ]
          refine wpAny_ready (rs := [12]) (by kernel_rfl) (by simp) ?_
          refine AllReady.cons (o := { dst := some 35, op := Go.Op.call { callee := Go.Callee.builtin Go.Builtin.append, args := #[Go.Operand.tmp 28, Go.Operand.tmp 34], argTypes := #[40, 40] }, type := 40, pos := "thresherref11.go:29", after := #[{ on := 5, ground := Go.Ground.data }, { on := 11, ground := Go.Ground.data }, { on := 10, ground := Go.Ground.chain }], guard := none }) rfl (fun K hK => ?_) AllReady.nil
          refine step_append_run _ rfl _ _ _ rfl (.slice ua um uc) _ _ W4 rfl rfl HAP.out ?_
          refine hK _ _ ?_
          clear hK K
          try simp only [Act.put, List.setIfInBounds_toArray, List.set_cons_zero, List.set_cons_succ]
          refine wpAny_take (i := 13) (oi := { dst := some 36, op := Go.Op.indexAddr 22 (Go.Operand.tmp 23) (Go.Operand.tmp 24), type := 0, pos := "thresherref11.go:29", after := #[{ on := 0, ground := Go.Ground.data }, { on := 1, ground := Go.Ground.data }, { on := 0, ground := Go.Ground.phase }, { on := 1, ground := Go.Ground.phase }, { on := 2, ground := Go.Ground.phase }, { on := 3, ground := Go.Ground.phase }, { on := 4, ground := Go.Ground.phase }, { on := 5, ground := Go.Ground.phase }, { on := 6, ground := Go.Ground.phase }, { on := 7, ground := Go.Ground.phase }, { on := 8, ground := Go.Ground.phase }, { on := 9, ground := Go.Ground.phase }, { on := 10, ground := Go.Ground.phase }, { on := 11, ground := Go.Ground.phase }, { on := 12, ground := Go.Ground.phase }], guard := none }) (v := ?v13y19) rfl (by kernel_rfl) (by kernel_rfl) (by kernel_rfl) (fun _ _ _ h => h) (Or.inl ⟨by rfl, ?h13y19⟩) ?r13y19
          case h13y19 => (intro W; go_simp; try with_reducible rfl)
          simp only [Act.put, List.setIfInBounds_toArray, List.set_cons_zero, List.set_cons_succ]
          refine wpAny_ready (rs := [14]) (by kernel_rfl) (by simp) ?_
          refine AllReady.cons (o := { dst := none, op := Go.Op.store 40 (Go.Operand.tmp 36) (Go.Operand.tmp 35), type := 0, pos := "thresherref11.go:29", after := #[{ on := 13, ground := Go.Ground.data }, { on := 12, ground := Go.Ground.data }, { on := 12, ground := Go.Ground.chain }, { on := 0, ground := Go.Ground.phase }, { on := 1, ground := Go.Ground.phase }, { on := 2, ground := Go.Ground.phase }, { on := 3, ground := Go.Ground.phase }, { on := 4, ground := Go.Ground.phase }, { on := 5, ground := Go.Ground.phase }, { on := 6, ground := Go.Ground.phase }, { on := 7, ground := Go.Ground.phase }, { on := 8, ground := Go.Ground.phase }, { on := 9, ground := Go.Ground.phase }, { on := 10, ground := Go.Ground.phase }, { on := 11, ground := Go.Ground.phase }, { on := 12, ground := Go.Ground.phase }], guard := none }) rfl (fun K hK => ?_) AllReady.nil
          go_simp
          refine hK _ _ ?_
          clear hK K
          try simp only [Act.put, List.setIfInBounds_toArray, List.set_cons_zero, List.set_cons_succ]
          refine wpAny_done (by kernel_rfl) ?_ _
          go_wp2
          go_roundw
          case rel => exact ⟨k + 1, by omega, by go_num, HP4.out, HB4.out⟩
          case measure => simp [intOf]; omega
        · go_simp
          refine (HC.out _ (hb1.drew)).mono ?_
          rintro e W2 ⟨⟨⟨s2a, s2b, s2c⟩, rfl, ho2⟩, hb2⟩
          have hb02 := nxt (hb1.drew) hb2
          obtain ⟨hu3, v4, W4, hap, hfz, ⟨u5, hu5⟩, ⟨va4, vm4, vc4, rfl⟩, hP4, hb4⟩ := HT.out W2 (s2a, s2b, s2c) hb02 (ho2.lower (hb1.drew).size)
          have hu2 := HU.out W2 hb02
          have HP4 := hidM hP4
          have HB4 := hidM hb4
          have HAP := hidM hap
          clear hP4 hb4 hap ho2 hb2
          refine hK _ _ ?_
          clear hK K
          try simp only [Act.put, List.setIfInBounds_toArray, List.set_cons_zero, List.set_cons_succ]
          refine wpAny_ready (rs := [5, 11]) (by kernel_rfl) (by simp) ?_
          refine AllReady.cons (o := { dst := some 28, op := Go.Op.load 40 (Go.Operand.tmp 27), type := 40, pos := "thresherref11.go:29", after := #[{ on := 4, ground := Go.Ground.data }], guard := none }) rfl (fun K hK => ?_) (AllReady.cons (o := { dst := some 34, op := Go.Op.buildSlice 40 1 #[(0, Go.Operand.tmp 33)], type := 40, pos := "thresherref11.go:29", after := #[{ on := 10, ground := Go.Ground.data }], guard := none }) rfl (fun K hK => ?_) AllReady.nil)
          · go_simp
            refine hK _ _ ?_
            clear hK K
            try simp only [Act.put, List.setIfInBounds_toArray, List.set_cons_zero, List.set_cons_succ]
            refine wpAny_ready (rs := [11]) (by kernel_rfl) (by simp) ?_
            refine AllReady.cons (o := { dst := some 34, op := Go.Op.buildSlice 40 1 #[(0, Go.Operand.tmp 33)], type := 40, pos := "thresherref11.go:29", after := #[{ on := 10, ground := Go.Ground.data }], guard := none }) rfl (fun K hK => ?_) AllReady.nil
            go_simp
            refine hK _ _ ?_
            clear hK K
            try simp only [Act.put, List.setIfInBounds_toArray, List.set_cons_zero, List.set_cons_succ]
            refine wpAny_ready (rs := [12]) (by kernel_rfl) (by simp) ?_
            refine AllReady.cons (o := { dst := some 35, op := Go.Op.call { callee := Go.Callee.builtin Go.Builtin.append, args := #[Go.Operand.tmp 28, Go.Operand.tmp 34], argTypes := #[40, 40] }, type := 40, pos := "thresherref11.go:29", after := #[{ on := 5, ground := Go.Ground.data }, { on := 11, ground := Go.Ground.data }, { on := 10, ground := Go.Ground.chain }], guard := none }) rfl (fun K hK => ?_) AllReady.nil
            refine step_append_run _ rfl _ _ _ rfl (.slice ua um uc) _ _ W4 rfl rfl HAP.out ?_
            refine hK _ _ ?_
            clear hK K
            try simp only [Act.put, List.setIfInBounds_toArray, List.set_cons_zero, List.set_cons_succ]
            refine wpAny_take (i := 13) (oi := { dst := some 36, op := Go.Op.indexAddr 22 (Go.Operand.tmp 23) (Go.Operand.tmp 24), type := 0, pos := "thresherref11.go:29", after := #[{ on := 0, ground := Go.Ground.data }, { on := 1, ground := Go.Ground.data }, { on := 0, ground := Go.Ground.phase }, { on := 1, ground := Go.Ground.phase }, { on := 2, ground := Go.Ground.phase }, { on := 3, ground := Go.Ground.phase }, { on := 4, ground := Go.Ground.phase }, { on := 5, ground := Go.Ground.phase }, { on := 6, ground := Go.Ground.phase }, { on := 7, ground := Go.Ground.phase }, { on := 8, ground := Go.Ground.phase }, { on := 9, ground := Go.Ground.phase }, { on := 10, ground := Go.Ground.phase }, { on := 11, ground := Go.Ground.phase }, { on := 12, ground := Go.Ground.phase }], guard := none }) (v := ?v13y20) rfl (by kernel_rfl) (by kernel_rfl) (by kernel_rfl) (fun _ _ _ h => h) (Or.inl ⟨by rfl, ?h13y20⟩) ?r13y20
            case h13y20 => (intro W; go_simp; try with_reducible rfl)
            simp only [Act.put, List.setIfInBounds_toArray, List.set_cons_zero, List.set_cons_succ]
            refine wpAny_ready (rs := [14]) (by kernel_rfl) (by simp) ?_
            refine AllReady.cons (o := { dst := none, op := Go.Op.store 40 (Go.Operand.tmp 36) (Go.Operand.tmp 35), type := 0, pos := "thresherref11.go:29", after := #[{ on := 13, ground := Go.Ground.data }, { on := 12, ground := Go.Ground.data }, { on := 12, ground := Go.Ground.chain }, { on := 0, ground := Go.Ground.phase }, { on := 1, ground := Go.Ground.phase }, { on := 2, ground := Go.Ground.phase }, { on := 3, ground := Go.Ground.phase }, { on := 4, ground := Go.Ground.phase }, { on := 5, ground := Go.Ground.phase }, { on := 6, ground := Go.Ground.phase }, { on := 7, ground := Go.Ground.phase }, { on := 8, ground := Go.Ground.phase }, { on := 9, ground := Go.Ground.phase }, { on := 10, ground := Go.Ground.phase }, { on := 11, ground := Go.Ground.phase }, { on := 12, ground := Go.Ground.phase }], guard := none }) rfl (fun K hK => ?_) AllReady.nil
            go_simp
            refine hK _ _ ?_
            clear hK K
            try simp only [Act.put, List.setIfInBounds_toArray, List.set_cons_zero, List.set_cons_succ]
            refine wpAny_done (by kernel_rfl) ?_ _
            go_wp2
            go_roundw
            case rel => exact ⟨k + 1, by omega, by go_num, HP4.out, HB4.out⟩
            case measure => simp [intOf]; omega
          · go_simp
            refine hK _ _ ?_
            clear hK K
            try simp only [Act.put, List.setIfInBounds_toArray, List.set_cons_zero, List.set_cons_succ]
            refine wpAny_ready (rs := [5]) (by kernel_rfl) (by simp) ?_
            refine AllReady.cons (o := { dst := some 28, op := Go.Op.load 40 (Go.Operand.tmp 27), type := 40, pos := "thresherref11.go:29", after := #[{ on := 4, ground := Go.Ground.data }], guard := none }) rfl (fun K hK => ?_) AllReady.nil
            go_simp
            refine hK _ _ ?_
            clear hK K
            try simp only [Act.put, List.setIfInBounds_toArray, List.set_cons_zero, List.set_cons_succ]
            refine wpAny_ready (rs := [12]) (by kernel_rfl) (by simp) ?_
            refine AllReady.cons (o := { dst := some 35, op := Go.Op.call { callee := Go.Callee.builtin Go.Builtin.append, args := #[Go.Operand.tmp 28, Go.Operand.tmp 34], argTypes := #[40, 40] }, type := 40, pos := "thresherref11.go:29", after := #[{ on := 5, ground := Go.Ground.data }, { on := 11, ground := Go.Ground.data }, { on := 10, ground := Go.Ground.chain }], guard := none }) rfl (fun K hK => ?_) AllReady.nil
            refine step_append_run _ rfl _ _ _ rfl (.slice ua um uc) _ _ W4 rfl rfl HAP.out ?_
            refine hK _ _ ?_
            clear hK K
            try simp only [Act.put, List.setIfInBounds_toArray, List.set_cons_zero, List.set_cons_succ]
            refine wpAny_take (i := 13) (oi := { dst := some 36, op := Go.Op.indexAddr 22 (Go.Operand.tmp 23) (Go.Operand.tmp 24), type := 0, pos := "thresherref11.go:29", after := #[{ on := 0, ground := Go.Ground.data }, { on := 1, ground := Go.Ground.data }, { on := 0, ground := Go.Ground.phase }, { on := 1, ground := Go.Ground.phase }, { on := 2, ground := Go.Ground.phase }, { on := 3, ground := Go.Ground.phase }, { on := 4, ground := Go.Ground.phase }, { on := 5, ground := Go.Ground.phase }, { on := 6, ground := Go.Ground.phase }, { on := 7, ground := Go.Ground.phase }, { on := 8, ground := Go.Ground.phase }, { on := 9, ground := Go.Ground.phase }, { on := 10, ground := Go.Ground.phase }, { on := 11, ground := Go.Ground.phase }, { on := 12, ground := Go.Ground.phase }], guard := none }) (v := ?v13y21) rfl (by kernel_rfl) (by kernel_rfl) (by kernel_rfl) (fun _ _ _ h => h) (Or.inl ⟨by rfl, ?h13y21⟩) ?r13y21
            case h13y21 => (intro W; go_simp; try with_reducible rfl)
            simp only [Act.put, List.setIfInBounds_toArray, List.set_cons_zero, List.set_cons_succ]
            refine wpAny_ready (rs := [14]) (by kernel_rfl) (by simp) ?_
            refine AllReady.cons (o := { dst := none, op := Go.Op.store 40 (Go.Operand.tmp 36) (Go.Operand.tmp 35), type := 0, pos := "thresherref11.go:29", after := #[{ on := 13, ground := Go.Ground.data }, { on := 12, ground := Go.Ground.data }, { on := 12, ground := Go.Ground.chain }, { on := 0, ground := Go.Ground.phase }, { on := 1, ground := Go.Ground.phase }, { on := 2, ground := Go.Ground.phase }, { on := 3, ground := Go.Ground.phase }, { on := 4, ground := Go.Ground.phase }, { on := 5, ground := Go.Ground.phase }, { on := 6, ground := Go.Ground.phase }, { on := 7, ground := Go.Ground.phase }, { on := 8, ground := Go.Ground.phase }, { on := 9, ground := Go.Ground.phase }, { on := 10, ground := Go.Ground.phase }, { on := 11, ground := Go.Ground.phase }, { on := 12, ground := Go.Ground.phase }], guard := none }) rfl (fun K hK => ?_) AllReady.nil
            go_simp
            refine hK _ _ ?_
            clear hK K
            try simp only [Act.put, List.setIfInBounds_toArray, List.set_cons_zero, List.set_cons_succ]
            refine wpAny_done (by kernel_rfl) ?_ _
            go_wp2
            go_roundw
            case rel => exact ⟨k + 1, by omega, by go_num, HP4.out, HB4.out⟩
            case measure => simp [intOf]; omega
    · have hlt' : l.length ≤ k := by omega
      rw [List.take_of_length_le hlt'] at hP
      go_wp2
      go_ret
      exact ⟨⟨_, rfl, hP.runs⟩, hbel⟩
end Go.Proofs.YtejgcflcckjlpaaDoor
