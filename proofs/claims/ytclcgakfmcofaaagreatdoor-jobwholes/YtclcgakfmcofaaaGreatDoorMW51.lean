/- Texts laid together: PTRParts, JROut. -/
import Derived.Test.YtclcgakfmcofaaaGreatDoorMW44
import Derived.Test.YtclcgakfmcofaaaGreatDoorMW43
import Derived.Test.YtclcgakfmcofaaaGreatDoorMW32
import Derived.Test.YtclcgakfmcofaaaGreatDoorMW9
import Derived.Test.YtclcgakfmcofaaaGreatDoorMW45
import Derived.Test.YtclcgakfmcofaaaGreatDoorMW34
import Derived.Test.YtclcgakfmcofaaaGreatDoorMW33
set_option linter.unusedVariables false
set_option maxRecDepth 100000
set_option linter.unusedSimpArgs false
set_option maxHeartbeats 3200000
namespace Go.Proofs.YtclcgakfmcofaaaGreatDoor
open List (setIfInBounds_toArray set_cons_zero set_cons_succ)
open Go.RowKit
theorem rparts_any (n : Int) (v : Value) (l : List Rw) (w : World) (h : WS w v l) (hl : l.length ≤ 100000) (hls : ∀ r ∈ l, r.2.2.length ≤ 100000) (hwf : WfRs l) (hm : dL n = true) (hkeys : ∀ r ∈ l, r.1.2.size ≤ 64) :
  Calls Tryz.prog 99 #[v, .int .i64 n] w fun e w' => (∃ v', e = .returned v' ∧ kd w' w.heap.size v' (dM n l)) ∧ Below w.heap.size w w' := by
 obtain ⟨va, vc, rfl, hsh⟩ := h
 have hm8 := fj hm
 obtain ⟨N, rfl⟩ : ∃ N : Nat, n = (N : Int) := ⟨n.toNat, by omega⟩
 obtain ⟨W3, hmk, hP0, hb03⟩ := fa.start w w.heap.size N (Nat.le_refl _) (by omega)
 obtain ⟨g, hg⟩ : ∃ g, g = w.heap.size := ⟨_, rfl⟩
 have hP0' : fa W3 w.heap.size g N (dM (N : Int) (l.take 0)) := by
  have e : dM (N : Int) (l.take 0) = List.replicate N [] := by rw [List.take_zero, prt_nil, Int.toNat_natCast]
  rw [e, hg]
  exact hP0
 go_enter Tryz.func99, Tryz.ntmps99
 go_wp2
 rw [← hg]
 clear hP0 hmk hg
 go_loopw [6] (fun i wr => ∃ k : Nat, k ≤ l.length ∧ i = .int .i64 k ∧ fa wr w.heap.size g N (dM (N : Int) (l.take k)) ∧ Below w.heap.size w wr) (fun i _ => l.length - (intOf i).toNat)
 case atStart => exact ⟨0, by omega, rfl, hP0', hb03⟩
 case round =>
  clear hP0' hb03
  rename World => w0
  obtain ⟨k, hk, rfl, hP, hbel⟩ := hrel
  have hsz := hbel.size
  by_cases hlt : k < l.length
  ·obtain ⟨⟨⟨ya, yb⟩, yn, yl⟩, hy⟩ := ak hlt
   rcases hsh with rfl | ⟨b, off, rfl, hb, hat⟩
   ·simp at hlt
   obtain ⟨c0, c1, c2, s1, p1, c3, n1⟩ := (hat.below hbel hb) k _ hy
   simp only at c0 c1 c2 c3 n1
   have hst : ∀ (W : World) (o : Obj), Below W.heap.size W (W.alloc o) := fun W o => (Below.refl _ _).alloc (Nat.le_refl _) _
   have nk := hkeys _ (List.mem_of_getElem? hy)
   have hnum := (hwf _ (List.mem_of_getElem? hy)).k.1
   have hset := hls _ (List.mem_of_getElem? hy)
   simp only at nk hnum hset
   obtain ⟨p, hp⟩ : ∃ p, p = ofP (N : Int) (ya, yb) := ⟨_, rfl⟩
   have hpN : p < N := by have := ofP_lt hm (ya, yb); rw [← hp, Int.toNat_natCast] at this; exact this
   have hpi0 : (0 : Int) ≤ (p : Int) := by omega
   have hpi1 : (p : Int) < (N : Int) := by omega
   obtain ⟨hat1, hset1⟩ := prt_put (n := (N : Int)) (r := ((ya, yb), (yn, yl))) hy hp.symm (by rw [Int.toNat_natCast]; exact hpN)
   obtain ⟨ua, um, uc, hu0, -⟩ := hP.at hpN
   have hgl := hP.lt
   have hlen1 : (fK (ofP (N : Int)) (l.take k) p).length ≤ 100000 := by have := oF (ofP (N : Int)) (l.take k) p; rw [List.length_take] at this; omega
   have HC := ae (fun W (hW : Below w0.heap.size w0 W) => ff (ya, yb) yn yl s1 p1 W (n1.below hW) hset)
   have HU := ae (show ∀ W, Below w0.heap.size w0 W → W.cell? ⟨g, p, none⟩ = some (.slice ua um uc) from fun W hW => (hW.cell (p := ⟨g, p, none⟩) hgl.2).trans hu0)
   have HT := ae (show ∀ (W2 : World) (s2 : Sl), Below w0.heap.size w0 W2 → ay W2 w0.heap.size (dD s2) yl →
     (W2.alloc (.cells #[.int .i64 ya, .string yb, .int .i64 yn, dD s2] 129)).cell? ⟨g, p, none⟩ = some (.slice ua um uc) ∧ ∃ v4 W4, (Builtin.append_ #[61, 61] 61 #[.slice ua um uc, .slice (some ⟨W2.heap.size, 0, none⟩) 1 1]).run Tryz.prog (W2.alloc (.cells #[.int .i64 ya, .string yb, .int .i64 yn, dD s2] 129)) = .ok v4 W4 ∧ W4.frozen? ⟨g, p, none⟩ = false ∧ (∃ u', W4.cell? ⟨g, p, none⟩ = some u') ∧ (∃ a m c, v4 = .slice a m c) ∧ fa (W4.setCell ⟨g, p, none⟩ v4) w.heap.size g N (dM (N : Int) (l.take (k + 1))) ∧ Below w.heap.size w (W4.setCell ⟨g, p, none⟩ v4) from fun W2 s2 hb2 ho2 => by
    have G3 := ag hb2 (hst W2 (.cells #[.int .i64 ya, .string yb, .int .i64 yn, dD s2] 129))
    have O3 := ho2.below (hst W2 (.cells #[.int .i64 ya, .string yb, .int .i64 yn, dD s2] 129))
    have hu3 := HU.out _ G3
    obtain ⟨v4, W4, q1, q2, q3, q4, q5, q6⟩ := (hP.below G3).put (p := p) 61 hat1 hu3 (XS.new W2 ((ya, yb), yn, s2)) (⟨rfl, rfl, O3.lower hsz⟩ : IsW _ w.heap.size ((ya, yb), yn, s2) ((ya, yb), (yn, yl))) hlen1 (by have := G3.size; omega)
    refine ⟨hu3, v4, W4, q1, q2, q4, q3, ?_, (hbel.trans (G3.mono hsz)).trans q6⟩
    rw [← hset1]
    exact q5)
   have hblt : b < w0.heap.size := by omega
   have HCL := ae (show ∀ W, Below w0.heap.size w0 W → W.cell? ⟨b, off + k * 4, none⟩ = some (.int .i64 ya) ∧ W.cell? ⟨b, off + k * 4 + 1, none⟩ = some (.string yb) ∧ W.cell? ⟨b, off + k * 4 + 2, none⟩ = some (.int .i64 yn) ∧ W.cell? ⟨b, off + k * 4 + 3, none⟩ = some (.slice s1 yl.length p1) from fun W hW =>
    ⟨(hW.cell (p := ⟨b, _, none⟩) hblt).trans c0, (hW.cell (p := ⟨b, _, none⟩) hblt).trans c1, (hW.cell (p := ⟨b, _, none⟩) hblt).trans c2, (hW.cell (p := ⟨b, _, none⟩) hblt).trans c3⟩)
   have HF := ae (rof_any (N : Int) (ya, yb) w0 hnum.1 hnum.2 nk hm)
   rw [← hp] at HF
   have hki0 : (0 : Int) ≤ (k : Int) := by omega
   have hki1 : (k : Int) < (l.length : Int) := by omega
   clear hbel hat n1 hy hP hat1 hset1 hp hu0 hgl hlen1 hst nk hnum hset hkeys hwf hls
   go_wp2_with (first
    | (go_at_call 70; refine HF.out.mono ?_; rintro e W1 ⟨rfl, hb1⟩; obtain ⟨d0, d1, d2, d3⟩ := HCL.out W1 hb1; have hu1 := HU.out W1 hb1))
   refine wp_region_any (by kernel_rfl) ?_
   change wpAny _ _ _ _ _ _ _ (World.drew _)
   refine wpAny_take (i := 0) (v := ?v0y10) rfl (by kernel_rfl) (by kernel_rfl) (by kernel_rfl) (fun _ _ _ h => h) (Or.inl ⟨by rfl, ?h0y10⟩) ?r0y10
   case h0y10 => (intro W; go_simp; try with_reducible rfl)
   simp only [Act.put, setIfInBounds_toArray, set_cons_zero, set_cons_succ]
   refine wpAny_take (i := 1) (v := ?v1y11) rfl (by kernel_rfl) (by kernel_rfl) (by kernel_rfl) (fun _ _ _ h => h) (Or.inl ⟨by rfl, ?h1y11⟩) ?r1y11
   case h1y11 => (intro W; go_simp; try with_reducible rfl)
   simp only [Act.put, setIfInBounds_toArray, set_cons_zero, set_cons_succ]
   refine wpAny_take (i := 2) (v := ?v2y12) rfl (by kernel_rfl) (by kernel_rfl) (by kernel_rfl) (fun _ _ _ h => h) (Or.inl ⟨by rfl, ?h2y12⟩) ?r2y12
   case h2y12 => (intro W; go_simp; try with_reducible rfl)
   simp only [Act.put, setIfInBounds_toArray, set_cons_zero, set_cons_succ]
   refine wpAny_take (i := 3) (v := ?v3y13) rfl (by kernel_rfl) (by kernel_rfl) (by kernel_rfl) (fun _ _ _ h => h) (Or.inl ⟨by rfl, ?h3y13⟩) ?r3y13
   case h3y13 => (intro W; go_simp; try with_reducible rfl)
   simp only [Act.put, setIfInBounds_toArray, set_cons_zero, set_cons_succ]
   refine wpAny_take (i := 4) (v := ?v4y14) rfl (by kernel_rfl) (by kernel_rfl) (by kernel_rfl) (fun _ _ _ h => h) (Or.inl ⟨by rfl, ?h4y14⟩) ?r4y14
   case h4y14 => (intro W; go_simp; try with_reducible rfl)
   simp only [Act.put, setIfInBounds_toArray, set_cons_zero, set_cons_succ]
   refine wpAny_take (i := 6) (v := ?v6y15) rfl (by kernel_rfl) (by kernel_rfl) (by kernel_rfl) (fun _ _ _ h => h) (Or.inl ⟨by rfl, ?h6y15⟩) ?r6y15
   case h6y15 => (intro W; go_simp; try with_reducible rfl)
   simp only [Act.put, setIfInBounds_toArray, set_cons_zero, set_cons_succ]
   refine wpAny_take (i := 7) (v := ?v7y16) rfl (by kernel_rfl) (by kernel_rfl) (by kernel_rfl) (fun _ _ _ h => h) (Or.inl ⟨by rfl, ?h7y16⟩) ?r7y16
   case h7y16 => (intro W; go_simp; try with_reducible rfl)
   simp only [Act.put, setIfInBounds_toArray, set_cons_zero, set_cons_succ]
   refine wpAny_take (i := 8) (v := ?v8y17) rfl (by kernel_rfl) (by kernel_rfl) (by kernel_rfl) (fun _ _ _ h => h) (Or.inl ⟨by rfl, ?h8y17⟩) ?r8y17
   case h8y17 => (intro W; go_simp; try with_reducible rfl)
   simp only [Act.put, setIfInBounds_toArray, set_cons_zero, set_cons_succ]
   refine wpAny_ready (rs := [5, 9]) (by kernel_rfl) (by simp) ?_
   refine AllReady.cons rfl (fun K hK => ?_) (AllReady.cons rfl (fun K hK => ?_) AllReady.nil)
   ·go_simp
    refine hK _ _ ?_
    clear hK K
    try simp only [Act.put, setIfInBounds_toArray, set_cons_zero, set_cons_succ]
    refine wpAny_ready (rs := [9]) (by kernel_rfl) (by simp) ?_
    refine AllReady.cons rfl (fun K hK => ?_) AllReady.nil
    go_simp
    refine hK _ _ ?_
    clear hK K
    try simp only [Act.put, setIfInBounds_toArray, set_cons_zero, set_cons_succ]
    refine wpAny_ready (rs := [10]) (by kernel_rfl) (by simp) ?_
    refine AllReady.cons rfl (fun K hK => ?_) AllReady.nil
    go_simp
    refine (HC.out _ (hb1.drew)).mono ?_
    rintro e W2 ⟨⟨⟨s2a, s2b, s2c⟩, rfl, ho2⟩, hb2⟩
    have hb02 := ag (hb1.drew) hb2
    obtain ⟨hu3, v4, W4, hap, hfz, ⟨u5, hu5⟩, ⟨va4, vm4, vc4, rfl⟩, hP4, hb4⟩ := HT.out W2 (s2a, s2b, s2c) hb02 (ho2.lower (hb1.drew).size)
    have hu2 := HU.out W2 hb02
    have HP4 := ae hP4
    have HB4 := ae hb4
    have HAP := ae hap
    clear hP4 hb4 hap ho2 hb2
    refine hK _ _ ?_
    clear hK K
    try simp only [Act.put, setIfInBounds_toArray, set_cons_zero, set_cons_succ]
    refine wpAny_ready (rs := [11]) (by kernel_rfl) (by simp) ?_
    refine AllReady.cons rfl (fun K hK => ?_) AllReady.nil
    go_simp
    refine hK _ _ ?_
    clear hK K
    try simp only [Act.put, setIfInBounds_toArray, set_cons_zero, set_cons_succ]
    refine wpAny_ready (rs := [12]) (by kernel_rfl) (by simp) ?_
    refine AllReady.cons rfl (fun K hK => ?_) AllReady.nil
    refine aL _ rfl _ _ _ rfl (.slice ua um uc) _ _ W4 rfl rfl HAP.out ?_
    refine hK _ _ ?_
    clear hK K
    try simp only [Act.put, setIfInBounds_toArray, set_cons_zero, set_cons_succ]
    refine wpAny_take (i := 13) (v := ?v13y18) rfl (by kernel_rfl) (by kernel_rfl) (by kernel_rfl) (fun _ _ _ h => h) (Or.inl ⟨by rfl, ?h13y18⟩) ?r13y18
    case h13y18 => (intro W; go_simp; try with_reducible rfl)
    simp only [Act.put, setIfInBounds_toArray, set_cons_zero, set_cons_succ]
    refine wpAny_ready (rs := [14]) (by kernel_rfl) (by simp) ?_
    refine AllReady.cons rfl (fun K hK => ?_) AllReady.nil
    go_simp
    refine hK _ _ ?_
    clear hK K
    try simp only [Act.put, setIfInBounds_toArray, set_cons_zero, set_cons_succ]
    refine wpAny_done (by kernel_rfl) ?_ _
    go_wp2
    go_roundw
    case rel => exact ⟨k + 1, by omega, by go_num, HP4.out, HB4.out⟩
    case measure => simp [intOf]; omega
   ·go_simp
    refine hK _ _ ?_
    clear hK K
    try simp only [Act.put, setIfInBounds_toArray, set_cons_zero, set_cons_succ]
    refine wpAny_ready (rs := [5, 10]) (by kernel_rfl) (by simp) ?_
    refine AllReady.cons rfl (fun K hK => ?_) (AllReady.cons rfl (fun K hK => ?_) AllReady.nil)
    ·go_simp
     refine hK _ _ ?_
     clear hK K
     try simp only [Act.put, setIfInBounds_toArray, set_cons_zero, set_cons_succ]
     refine wpAny_ready (rs := [10]) (by kernel_rfl) (by simp) ?_
     refine AllReady.cons rfl (fun K hK => ?_) AllReady.nil
     go_simp
     refine (HC.out _ (hb1.drew)).mono ?_
     rintro e W2 ⟨⟨⟨s2a, s2b, s2c⟩, rfl, ho2⟩, hb2⟩
     have hb02 := ag (hb1.drew) hb2
     obtain ⟨hu3, v4, W4, hap, hfz, ⟨u5, hu5⟩, ⟨va4, vm4, vc4, rfl⟩, hP4, hb4⟩ := HT.out W2 (s2a, s2b, s2c) hb02 (ho2.lower (hb1.drew).size)
     have hu2 := HU.out W2 hb02
     have HP4 := ae hP4
     have HB4 := ae hb4
     have HAP := ae hap
     clear hP4 hb4 hap ho2 hb2
     refine hK _ _ ?_
     clear hK K
     try simp only [Act.put, setIfInBounds_toArray, set_cons_zero, set_cons_succ]
     refine wpAny_ready (rs := [11]) (by kernel_rfl) (by simp) ?_
     refine AllReady.cons rfl (fun K hK => ?_) AllReady.nil
     go_simp
     refine hK _ _ ?_
     clear hK K
     try simp only [Act.put, setIfInBounds_toArray, set_cons_zero, set_cons_succ]
     refine wpAny_ready (rs := [12]) (by kernel_rfl) (by simp) ?_
     refine AllReady.cons rfl (fun K hK => ?_) AllReady.nil
     refine aL _ rfl _ _ _ rfl (.slice ua um uc) _ _ W4 rfl rfl HAP.out ?_
     refine hK _ _ ?_
     clear hK K
     try simp only [Act.put, setIfInBounds_toArray, set_cons_zero, set_cons_succ]
     refine wpAny_take (i := 13) (v := ?v13y19) rfl (by kernel_rfl) (by kernel_rfl) (by kernel_rfl) (fun _ _ _ h => h) (Or.inl ⟨by rfl, ?h13y19⟩) ?r13y19
     case h13y19 => (intro W; go_simp; try with_reducible rfl)
     simp only [Act.put, setIfInBounds_toArray, set_cons_zero, set_cons_succ]
     refine wpAny_ready (rs := [14]) (by kernel_rfl) (by simp) ?_
     refine AllReady.cons rfl (fun K hK => ?_) AllReady.nil
     go_simp
     refine hK _ _ ?_
     clear hK K
     try simp only [Act.put, setIfInBounds_toArray, set_cons_zero, set_cons_succ]
     refine wpAny_done (by kernel_rfl) ?_ _
     go_wp2
     go_roundw
     case rel => exact ⟨k + 1, by omega, by go_num, HP4.out, HB4.out⟩
     case measure => simp [intOf]; omega
    ·go_simp
     refine (HC.out _ (hb1.drew)).mono ?_
     rintro e W2 ⟨⟨⟨s2a, s2b, s2c⟩, rfl, ho2⟩, hb2⟩
     have hb02 := ag (hb1.drew) hb2
     obtain ⟨hu3, v4, W4, hap, hfz, ⟨u5, hu5⟩, ⟨va4, vm4, vc4, rfl⟩, hP4, hb4⟩ := HT.out W2 (s2a, s2b, s2c) hb02 (ho2.lower (hb1.drew).size)
     have hu2 := HU.out W2 hb02
     have HP4 := ae hP4
     have HB4 := ae hb4
     have HAP := ae hap
     clear hP4 hb4 hap ho2 hb2
     refine hK _ _ ?_
     clear hK K
     try simp only [Act.put, setIfInBounds_toArray, set_cons_zero, set_cons_succ]
     refine wpAny_ready (rs := [5, 11]) (by kernel_rfl) (by simp) ?_
     refine AllReady.cons rfl (fun K hK => ?_) (AllReady.cons rfl (fun K hK => ?_) AllReady.nil)
     ·go_simp
      refine hK _ _ ?_
      clear hK K
      try simp only [Act.put, setIfInBounds_toArray, set_cons_zero, set_cons_succ]
      refine wpAny_ready (rs := [11]) (by kernel_rfl) (by simp) ?_
      refine AllReady.cons rfl (fun K hK => ?_) AllReady.nil
      go_simp
      refine hK _ _ ?_
      clear hK K
      try simp only [Act.put, setIfInBounds_toArray, set_cons_zero, set_cons_succ]
      refine wpAny_ready (rs := [12]) (by kernel_rfl) (by simp) ?_
      refine AllReady.cons rfl (fun K hK => ?_) AllReady.nil
      refine aL _ rfl _ _ _ rfl (.slice ua um uc) _ _ W4 rfl rfl HAP.out ?_
      refine hK _ _ ?_
      clear hK K
      try simp only [Act.put, setIfInBounds_toArray, set_cons_zero, set_cons_succ]
      refine wpAny_take (i := 13) (v := ?v13y20) rfl (by kernel_rfl) (by kernel_rfl) (by kernel_rfl) (fun _ _ _ h => h) (Or.inl ⟨by rfl, ?h13y20⟩) ?r13y20
      case h13y20 => (intro W; go_simp; try with_reducible rfl)
      simp only [Act.put, setIfInBounds_toArray, set_cons_zero, set_cons_succ]
      refine wpAny_ready (rs := [14]) (by kernel_rfl) (by simp) ?_
      refine AllReady.cons rfl (fun K hK => ?_) AllReady.nil
      go_simp
      refine hK _ _ ?_
      clear hK K
      try simp only [Act.put, setIfInBounds_toArray, set_cons_zero, set_cons_succ]
      refine wpAny_done (by kernel_rfl) ?_ _
      go_wp2
      go_roundw
      case rel => exact ⟨k + 1, by omega, by go_num, HP4.out, HB4.out⟩
      case measure => simp [intOf]; omega
     ·go_simp
      refine hK _ _ ?_
      clear hK K
      try simp only [Act.put, setIfInBounds_toArray, set_cons_zero, set_cons_succ]
      refine wpAny_ready (rs := [5]) (by kernel_rfl) (by simp) ?_
      refine AllReady.cons rfl (fun K hK => ?_) AllReady.nil
      go_simp
      refine hK _ _ ?_
      clear hK K
      try simp only [Act.put, setIfInBounds_toArray, set_cons_zero, set_cons_succ]
      refine wpAny_ready (rs := [12]) (by kernel_rfl) (by simp) ?_
      refine AllReady.cons rfl (fun K hK => ?_) AllReady.nil
      refine aL _ rfl _ _ _ rfl (.slice ua um uc) _ _ W4 rfl rfl HAP.out ?_
      refine hK _ _ ?_
      clear hK K
      try simp only [Act.put, setIfInBounds_toArray, set_cons_zero, set_cons_succ]
      refine wpAny_take (i := 13) (v := ?v13y21) rfl (by kernel_rfl) (by kernel_rfl) (by kernel_rfl) (fun _ _ _ h => h) (Or.inl ⟨by rfl, ?h13y21⟩) ?r13y21
      case h13y21 => (intro W; go_simp; try with_reducible rfl)
      simp only [Act.put, setIfInBounds_toArray, set_cons_zero, set_cons_succ]
      refine wpAny_ready (rs := [14]) (by kernel_rfl) (by simp) ?_
      refine AllReady.cons rfl (fun K hK => ?_) AllReady.nil
      go_simp
      refine hK _ _ ?_
      clear hK K
      try simp only [Act.put, setIfInBounds_toArray, set_cons_zero, set_cons_succ]
      refine wpAny_done (by kernel_rfl) ?_ _
      go_wp2
      go_roundw
      case rel => exact ⟨k + 1, by omega, by go_num, HP4.out, HB4.out⟩
      case measure => simp [intOf]; omega
  ·have hlt' : l.length ≤ k := by omega
   rw [List.take_of_length_le hlt'] at hP
   go_wp2
   go_ret
   exact ⟨⟨_, rfl, hP.runs⟩, hbel⟩
theorem outB_mem (agg : Int) : ∀ (P : List (List Rw)) (m : List Rw), m ∈ P → (aF (an agg m)).size ≤ (cq agg P).size
 | [], m, h => by simp at h
 | a :: P, m, h => by
  show _ ≤ (aF (an agg a) ++ cq agg P).size
  rw [ByteArray.size_append]
  rcases List.mem_cons.1 h with rfl | h
  ·omega
  ·have := outB_mem agg P m h; omega
theorem outRes_short {agg n : Int} {l : List Rw} (h : (cq agg (dM n l)).size ≤ 32704) : bM agg n l = (cq agg (dM n l), 0) :=
 kK (fun m hm => by have := outB_mem agg (dM n l) m hm; rw [dv] at this; omega) h
theorem routput_any (agg bound n : Int) (v : Value) (l : List Rw) (w : World) (h : WS w v l) (hf : ed agg bound l) (hwf : WfRs l) (hm : dL n = true) :
  Calls Tryz.prog 58 #[.int .i64 agg, .int .i64 n, v] w (ByR w (bM agg n l)) := by
 have hlen := hf.len
 have hsets : ∀ r ∈ l, r.2.2.length ≤ 100000 := fun r hr => by have := (hf.cell r hr).2.2; omega
 have H2 := ae (rparts_any n v l w h (by omega) hsets hwf hm (fun r hr => (hf.each hr).1))
 have hm8 := fj hm
 have hPn : ((dM n l).length : Int) = n := by rw [show (dM n l).length = n.toNat from dK _ _ _]; omega
 have hPl : 0 < (dM n l).length ∧ (dM n l).length ≤ 8 := by omega
 have HRB := ae (fun (W : World) (u : Value) (m : List Rw) (hmm : m ∈ dM n l) (hu : WS W u m) => iK agg bound u m W hu (hf.sub (lW hmm)))
 have HSZ := ae (fun (m : List Rw) (hmm : m ∈ dM n l) => prt_rows (agg := agg) (bound := bound) hmm hf)
 have HLONG := ae (show ¬ (cq agg (dM n l)).size ≤ 32704 → bM agg n l = (⟨#[]⟩, 2) from ls)
 have HOK := ae (show (cq agg (dM n l)).size ≤ 32704 → bM agg n l = (cq agg (dM n l), 0) from outRes_short)
 generalize dM n l = P at H2 HRB HSZ HLONG HOK hPl hPn
 generalize bM agg n l = R at HLONG HOK ⊢
 obtain ⟨hPl0, hPl8⟩ := hPl
 subst hPn
 clear hsets hwf hf hm8 hm
 obtain ⟨va, vc, rfl, -⟩ := h
 go_enter Tryz.func58, Tryz.ntmps58
 go_wp2_with fail
 refine H2.out.mono ?_
 rintro e W2 ⟨⟨vp, rfl, hrs⟩, hb2⟩
 have hrn : RnS W2 vp P := hrs.rns
 obtain ⟨g, off, pc, rfl, hgb, hrc⟩ := hrn.shapeP hPl0
 have HRC := ae hrc
 have HB2 := ae hb2
 clear hrn hrs hrc hb2 H2
 go_wp2
 go_loopw [8, 10] (fun u i wr => ∃ k : Nat, k ≤ P.length ∧ i = .int .i64 k ∧ u = .string (cq agg (P.take k)) ∧ Below W2.heap.size W2 wr) (fun _ i _ => P.length - (intOf i).toNat)
 case atStart => exact ⟨0, by omega, rfl, by rw [List.take_zero]; rfl, Below.refl _ _⟩
 case round =>
  rename World => w0
  obtain ⟨k, hk, rfl, rfl, hbel⟩ := hrel
  have hkl : (P.take k).length ≤ 8 := by rw [List.length_take]; omega
  have hsOut := oH agg (P.take k) (fun x hx => HSZ.out x (List.mem_of_mem_take hx))
  by_cases hlt : k < P.length
  ·obtain ⟨m, hy⟩ := ak hlt
   have hmm := List.mem_of_getElem? hy
   obtain ⟨u, hu0, hus, huc⟩ := HRC.out k m hy
   have hu := (hbel.cell (p := ⟨g, off + k, none⟩) hgb).trans hu0
   have HR1 := ae (HRB.out w0 u m hmm (hus.below hbel))
   have hs1 := HSZ.out m hmm
   have hki : (k : Int) < (P.length : Int) := by omega
   have hk0 : (0 : Int) ≤ (k : Int) := by omega
   have HST := ae (show cq agg (P.take (k + 1)) = cq agg (P.take k) ++ aF (an agg m) by
    rw [List.take_add_one, hy]
    exact oG _ _ _)
   have HBEL := ae hbel
   obtain ⟨ua, uc, rfl, -⟩ := id hus
   generalize an agg m = s at HR1 hs1 HST
   have HF := ae (fun W => kc s W (by omega))
   have hfs := dv s
   generalize aF s = f at HF HST hfs
   obtain ⟨Z, hZ⟩ : ∃ Z, Z = cq agg (P.take k) := ⟨_, rfl⟩
   obtain ⟨Z1, hZ1⟩ : ∃ Z1, Z1 = cq agg (P.take (k + 1)) := ⟨_, rfl⟩
   have HZ1 := ae hZ1
   rw [← hZ] at HST hsOut ⊢
   rw [← hZ1] at HST
   have hadd : ∀ W, (Op.stringOp .add Z f).run Tryz.prog W = .ok (.string Z1) W := fun W => by rw [HST.out]; exact run_string_add_sum W _ _ (by omega)
   clear hu0 hus huc hbel hZ hZ1 hy hmm
   go_wp2_with (first
    | (go_at_call 96; refine HR1.out.mono ?_; rintro e W4 ⟨rfl, hb4⟩)
    | (go_at_call 95; refine (HF.out W4).mono ?_; rintro e W5 ⟨rfl, hb5⟩))
   go_roundw
   case rel => exact ⟨k + 1, by omega, by go_num, by rw [HZ1.out], ag HBEL.out (ag hb4 hb5)⟩
   case measure => simp [intOf]; omega
  ·have hki : ¬ (k : Int) < (P.length : Int) := by omega
   have e5 : P.take k = P := List.take_of_length_le (by omega)
   rw [e5]
   have HBEL := ae hbel
   generalize cq agg P = Z at HLONG HOK ⊢
   clear e5 hbel hsOut
   by_cases hbig : 32704 < Z.size
   ·have hd : decide ((32704 : Int) < (Z.size : Int)) = true := decide_eq_true (by omega)
    have hd2 : (32704 : Int) < (Z.size : Int) := by omega
    have HE := ae (HLONG.out (by omega))
    go_wp2
    go_ret2
    exact ⟨by rw [HE.out]; rfl, ag HB2.out HBEL.out⟩
   ·have hd : decide ((32704 : Int) < (Z.size : Int)) = false := decide_eq_false (by omega)
    have hd2 : ¬ (32704 : Int) < (Z.size : Int) := by omega
    have HE := ae (HOK.out (by omega))
    go_wp2
    go_ret2
    exact ⟨by rw [HE.out]; rfl, ag HB2.out HBEL.out⟩
end Go.Proofs.YtclcgakfmcofaaaGreatDoor
