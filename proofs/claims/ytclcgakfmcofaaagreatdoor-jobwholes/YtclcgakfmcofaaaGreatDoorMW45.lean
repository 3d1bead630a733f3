/- Texts laid together: PTCopy, PTParts, PTBld, PTOut. -/
import Derived.Test.YtclcgakfmcofaaaGreatDoorMW9
import Derived.Test.YtclcgakfmcofaaaGreatDoorMW7
import Derived.Test.YtclcgakfmcofaaaGreatDoorMW43
import Derived.Test.YtclcgakfmcofaaaGreatDoorMW32
import Derived.Test.YtclcgakfmcofaaaGreatDoorMW44
import Derived.Test.YtclcgakfmcofaaaGreatDoorMW17
import Derived.Test.YtclcgakfmcofaaaGreatDoorMW37
set_option linter.unusedVariables false
set_option maxRecDepth 100000
set_option linter.unusedSimpArgs false
set_option maxHeartbeats 3200000
namespace Go.Proofs.YtclcgakfmcofaaaGreatDoor
open List (setIfInBounds_toArray set_cons_zero set_cons_succ)
open Go.RowKit
theorem copied_any (k : Ky) (n : Int) (l : List Int) (a : Option Addr) (cap : Nat) (w : World) (h : NS w (.slice a l.length cap) l) (hl : l.length ≤ 100000) :
  Calls Tryz.prog 167 #[.agg #[.int .i64 k.1, .string k.2, .int .i64 n, .slice a l.length cap]] w fun e w' => (∃ s : Sl, e = .returned (.agg #[.int .i64 k.1, .string k.2, .int .i64 n, dD s]) ∧ ay w' w.heap.size (dD s) l) ∧ Below w.heap.size w w' := by
 obtain ⟨ka, kb⟩ := k
 simp only
 have st : ∀ (W : World) (o : Obj), Below W.heap.size W (W.alloc o) := fun W o => (Below.refl _ _).alloc (Nat.le_refl _) _
 obtain ⟨W3, hW3⟩ : ∃ W3 : World, W3 = (w.alloc (.cells #[.int .i64 ka, .string kb, .int .i64 n, .slice a l.length cap] 129)).alloc (.cells #[.int .i64 0, .string ⟨#[]⟩, .int .i64 0, .slice none 0 0] 129) := ⟨_, rfl⟩
 have hb3 : Below w.heap.size w W3 := by rw [hW3]; exact ag (st _ _) (st _ _)
 have hs3 : W3.heap.size = w.heap.size + 2 := by rw [hW3]; simp
 have B0 : bF W3 w.heap.size (.int .i64 ka) (.string kb) (.int .i64 n) (.slice a l.length cap) := by
  rw [hW3]
  exact (bF.new w _ _ _ _).below (st _ _)
 have B1 : bF W3 (w.heap.size + 1) (.int .i64 0) (.string ⟨#[]⟩) (.int .i64 0) (.slice none 0 0) := by
  have := bF.new (w.alloc (.cells #[.int .i64 ka, .string kb, .int .i64 n, .slice a l.length cap] 129)) (.int .i64 0) (.string ⟨#[]⟩) (.int .i64 0) (.slice none 0 0)
  rw [hW3]
  simpa using this
 obtain ⟨v4, W4, u1, ho4, hg4, -⟩ := ii (base := W3.heap.size) (l := []) 125 (World.ownsRow_nil W3 W3.heap.size 2 1) (h.below hb3) (by simp only [List.length_nil]; omega) (Nat.le_refl _)
 rw [List.nil_append] at ho4
 have hb4 : Below W3.heap.size W3 W4 := (Below.refl _ _).grown hg4 (Nat.le_refl _) (fun k hk => by cases hk)
 obtain ⟨a4, c4, rfl⟩ := ho4.shape
 have C0 := B0.below hb4
 have C1 := B1.below hb4
 obtain ⟨p0, p1, p2, p3, -⟩ := B0.cells
 obtain ⟨-, -, -, q3, -, -, -, g3⟩ := C0.cells
 have D0 := C0.set3 (.slice a4 l.length c4)
 obtain ⟨s0, s1, s2, s3, -⟩ := D0.cells
 have D1 := C1.other (b' := w.heap.size) (o := 3) (u := .slice a4 l.length c4) (by omega)
 obtain ⟨t0, -, -, -, u0, -⟩ := D1.cells
 have E1 := D1.set0 (.int .i64 ka)
 obtain ⟨-, t1, -, -, -, f1, -⟩ := E1.cells
 have E2 := E1.set1 (.string kb)
 obtain ⟨-, -, t2, -, -, -, f2, -⟩ := E2.cells
 have E3 := E2.set2 (.int .i64 n)
 obtain ⟨-, -, -, t3, -, -, -, f3⟩ := E3.cells
 have E4 := E3.set3 (.slice a4 l.length c4)
 have HW := ae hW3.symm
 have HB := ae hb3
 have U1 := ae u1
 have HO := ae ho4
 have HB4 := ae hb4
 have HE := ae E4
 clear hW3 st hb3 u1 hg4 ho4 hb4 B0 B1 C0 C1 D0 D1 E1 E2 E3 E4 h
 go_enter Tryz.func167, Tryz.ntmps167
 go_wp2_with (at_builtin; rw [HW.out]; refine wpList_append_run _ rfl _ _ _ rfl _ _ (.slice a4 l.length c4) W4 rfl rfl U1.out ?_)
 have l1 : w.heap.size < W3.heap.size := by omega
 have l2 : w.heap.size + 1 < W3.heap.size := by omega
 exact bodyPost_ret (cC rfl rfl HE.out.load) rfl ⟨⟨(a4, l.length, c4), rfl, (cv (cv (cv (cv (cv HO.out l1 _) l2 _) l2 _) l2 _) l2 _).lower (by omega)⟩,
  bE (bE (bE (bE (bE (ag HB.out HB4.out) (by omega) _) (by omega) _) (by omega) _) (by omega) _) (by omega) _⟩
def eY (n : Int) (l : List Rw) : List (List Rw) × Int := if dL n && ke l then (dM n l, 0) else ([], 1)
abbrev PartsR (w : World) (r : List (List Rw) × Int) : Ending → World → Prop := fun e w' => (∃ v', e = .returned (.tuple #[v', .int .i64 r.2]) ∧ kd w' w.heap.size v' r.1) ∧ Below w.heap.size w w'
theorem ordB_keys {l : List Rw} (h : ke l = true) : ∀ r ∈ l, r.1.2.size ≤ 64 := by
 unfold ke at h
 rw [Bool.and_eq_true, Bool.and_eq_true, List.all_eq_true] at h
 exact fun r hr => of_decide_eq_true (h.1.1 r hr)
theorem parts_any (n : Int) (v : Value) (l : List Rw) (w : World) (h : WS w v l) (hl : l.length ≤ 100000) (hls : ∀ r ∈ l, r.2.2.length ≤ 100000) (hwf : WfRs l) :
  Calls Tryz.prog 135 #[v, .int .i64 n] w (PartsR w (eY n l)) := by
 have H1 := ae (fun W => kf n W)
 have H2 := ae (mayStand_any v l w h hl)
 obtain ⟨va, vc, rfl, hsh⟩ := h
 cases hm : dL n with
 | false =>
  rw [hm] at H1
  unfold eY
  rw [hm, Bool.false_and]
  go_enter Tryz.func135, Tryz.ntmps135
  go_wp2_with (first | (go_at_call 164; refine (H1.out _).mono ?_; rintro e W1 ⟨rfl, hw1⟩; subst W1))
  go_ret2
  exact ⟨⟨_, rfl, kd.nil _ _⟩, Below.refl _ _⟩
 | true =>
 rw [hm] at H1
 cases ho : ke l with
 | false =>
  rw [ho] at H2
  unfold eY
  rw [hm, ho, Bool.and_false]
  go_enter Tryz.func135, Tryz.ntmps135
  go_wp2_with (first | (go_at_call 164; refine (H1.out _).mono ?_; rintro e W1 ⟨rfl, hw1⟩; subst W1) | (go_at_call 165; refine H2.out.mono ?_; rintro e W2 ⟨rfl, hb2⟩))
  go_ret2
  exact ⟨⟨_, rfl, kd.nil _ _⟩, hb2⟩
 | true =>
 rw [ho] at H2
 have hkeys := ordB_keys ho
 have hm8 := fj hm
 have e1 : eY n l = (dM n l, 0) := by unfold eY; rw [hm, ho]; rfl
 rw [e1]
 clear e1 ho
 obtain ⟨N, rfl⟩ : ∃ N : Nat, n = (N : Int) := ⟨n.toNat, by omega⟩
 have HS := ae (fun W (hW : w.heap.size ≤ W.heap.size) => fa.start W w.heap.size N hW (by omega))
 go_enter Tryz.func135, Tryz.ntmps135
 go_wp2_with (first | (go_at_call 164; refine (H1.out _).mono ?_; rintro e W1 ⟨rfl, hw1⟩; subst W1) | (go_at_call 165; refine H2.out.mono ?_; rintro e W2 ⟨rfl, hb2⟩; obtain ⟨W3, hmk, hP0, hb3⟩ := HS.out W2 hb2.size))
 have hb03 := ag hb2 hb3
 obtain ⟨g, hg⟩ : ∃ g, g = W2.heap.size := ⟨_, rfl⟩
 rw [← hg] at hP0 ⊢
 have hP0' : fa W3 w.heap.size g N (dM (N : Int) (l.take 0)) := by
  have e : dM (N : Int) (l.take 0) = List.replicate N [] := by rw [List.take_zero, prt_nil, Int.toNat_natCast]
  rw [e]
  exact hP0
 clear hP0 hmk hb2 hb3 hg HS H1 H2
 go_loopw [23] (fun i wr => ∃ k : Nat, k ≤ l.length ∧ i = .int .i64 k ∧ fa wr w.heap.size g N (dM (N : Int) (l.take k)) ∧ Below w.heap.size w wr) (fun i _ => l.length - (intOf i).toNat)
 case atStart => exact ⟨0, by omega, rfl, hP0', hb03⟩
 case round =>
  clear hP0' hb03
  rename World => w0
  obtain ⟨k, hk, rfl, hP, hbel⟩ := hrel
  have hsz := hbel.size
  by_cases hlt : k < l.length
  ·obtain ⟨⟨⟨ya, yb⟩, yn, yl⟩, hy⟩ := ak hlt
   rcases hsh with rfl | ⟨b, off, rfl, hb, hat⟩
   ·simp at hlt
   obtain ⟨c0, c1, c2, s1, p1, c3, n1⟩ := (hat.below hbel hb) k _ hy
   simp only at c0 c1 c2 c3 n1
   have hst : ∀ (W : World) (o : Obj), Below W.heap.size W (W.alloc o) := fun W o => (Below.refl _ _).alloc (Nat.le_refl _) _
   have nk := hkeys _ (List.mem_of_getElem? hy)
   have hnum := (hwf _ (List.mem_of_getElem? hy)).k.1
   have hset := hls _ (List.mem_of_getElem? hy)
   simp only at nk hnum hset
   obtain ⟨p, hp⟩ : ∃ p, p = ofP (N : Int) (ya, yb) := ⟨_, rfl⟩
   have hpN : p < N := by have := ofP_lt hm (ya, yb); rw [← hp, Int.toNat_natCast] at this; exact this
   have hpi0 : (0 : Int) ≤ (p : Int) := by omega
   have hpi1 : (p : Int) < (N : Int) := by omega
   obtain ⟨hat1, hset1⟩ := prt_put (n := (N : Int)) (r := ((ya, yb), (yn, yl))) hy hp.symm (by rw [Int.toNat_natCast]; exact hpN)
   obtain ⟨ua, um, uc, hu0, -⟩ := hP.at hpN
   have hgl := hP.lt
   have hlen1 : (fK (ofP (N : Int)) (l.take k) p).length ≤ 100000 := by have := oF (ofP (N : Int)) (l.take k) p; rw [List.length_take] at this; omega
   have HC := ae (fun W (hW : Below w0.heap.size w0 W) => copied_any (ya, yb) yn yl s1 p1 W (n1.below hW) hset)
   have HU := ae (show ∀ W, Below w0.heap.size w0 W → W.cell? ⟨g, p, none⟩ = some (.slice ua um uc) from fun W hW => (hW.cell (p := ⟨g, p, none⟩) hgl.2).trans hu0)
   have HT := ae (show ∀ (W2 : World) (s2 : Sl), Below w0.heap.size w0 W2 → ay W2 w0.heap.size (dD s2) yl →
     (W2.alloc (.cells #[.int .i64 ya, .string yb, .int .i64 yn, dD s2] 129)).cell? ⟨g, p, none⟩ = some (.slice ua um uc) ∧ ∃ v4 W4, (Builtin.append_ #[61, 61] 61 #[.slice ua um uc, .slice (some ⟨W2.heap.size, 0, none⟩) 1 1]).run Tryz.prog (W2.alloc (.cells #[.int .i64 ya, .string yb, .int .i64 yn, dD s2] 129)) = .ok v4 W4 ∧ W4.frozen? ⟨g, p, none⟩ = false ∧ (∃ u', W4.cell? ⟨g, p, none⟩ = some u') ∧ (∃ a m c, v4 = .slice a m c) ∧ fa (W4.setCell ⟨g, p, none⟩ v4) w.heap.size g N (dM (N : Int) (l.take (k + 1))) ∧ Below w.heap.size w (W4.setCell ⟨g, p, none⟩ v4) from fun W2 s2 hb2 ho2 => by
    have G3 := ag hb2 (hst W2 (.cells #[.int .i64 ya, .string yb, .int .i64 yn, dD s2] 129))
    have O3 := ho2.below (hst W2 (.cells #[.int .i64 ya, .string yb, .int .i64 yn, dD s2] 129))
    have hu3 := HU.out _ G3
    obtain ⟨v4, W4, q1, q2, q3, q4, q5, q6⟩ := (hP.below G3).put (p := p) 61 hat1 hu3 (XS.new W2 ((ya, yb), yn, s2)) (⟨rfl, rfl, O3.lower hsz⟩ : IsW _ w.heap.size ((ya, yb), yn, s2) ((ya, yb), (yn, yl))) hlen1 (by have := G3.size; omega)
    refine ⟨hu3, v4, W4, q1, q2, q4, q3, ?_, (hbel.trans (G3.mono hsz)).trans q6⟩
    rw [← hset1]
    exact q5)
   obtain ⟨Wa, hWa⟩ : ∃ Wa : World, Wa = w0.alloc (.cells #[.int .i64 ya, .string yb, .int .i64 yn, .slice s1 yl.length p1] 129) := ⟨_, rfl⟩
   have hba : Below w0.heap.size w0 Wa := by rw [hWa]; exact hst _ _
   have B4 : bF Wa w0.heap.size (.int .i64 ya) (.string yb) (.int .i64 yn) (.slice s1 yl.length p1) := by rw [hWa]; exact bF.new w0 _ _ _ _
   obtain ⟨a0, a1, a2, a3, -⟩ := B4.cells
   have HA := ae hWa.symm
   have HF := ae (of_any (N : Int) (ya, yb) Wa hnum.1 hnum.2)
   rw [ofRes_ok nk hm, ← hp] at HF
   have HB4 := ae B4
   clear hWa hbel hat n1 B4 hy hP hat1 hset1 hp hu0 hgl hlen1 hst nk hnum hset hkeys hwf hls
   go_wp2_with (first
    | (go_at_call 166; rw [HA.out]; refine HF.out.mono ?_; rintro e W1 ⟨rfl, hb1⟩; obtain ⟨d0, d1, d2, d3, -⟩ := (HB4.out.below hb1).cells; have hu1 := HU.out W1 (ag hba hb1)))
   refine wp_region_any (by kernel_rfl) ?_
   change wpAny _ _ _ _ _ _ _ (World.drew _)
   refine wpAny_take (i := 0) (v := ?v0y1) rfl (by kernel_rfl) (by kernel_rfl) (by kernel_rfl) (fun _ _ _ h => h) (Or.inl ⟨by rfl, ?h0y1⟩) ?r0y1
   case h0y1 => (intro W; go_simp; try with_reducible rfl)
   simp only [Act.put, setIfInBounds_toArray, set_cons_zero, set_cons_succ]
   refine wpAny_take (i := 1) (v := ?v1y2) rfl (by kernel_rfl) (by kernel_rfl) (by kernel_rfl) (fun _ _ _ h => h) (Or.inl ⟨by rfl, ?h1y2⟩) ?r1y2
   case h1y2 => (intro W; go_simp; try with_reducible rfl)
   simp only [Act.put, setIfInBounds_toArray, set_cons_zero, set_cons_succ]
   refine wpAny_take (i := 2) (v := ?v2y3) rfl (by kernel_rfl) (by kernel_rfl) (by kernel_rfl) (fun _ _ _ h => h) (Or.inl ⟨by rfl, ?h2y3⟩) ?r2y3
   case h2y3 => (intro W; go_simp; try with_reducible rfl)
   simp only [Act.put, setIfInBounds_toArray, set_cons_zero, set_cons_succ]
   refine wpAny_take (i := 3) (v := ?v3y4) rfl (by kernel_rfl) (by kernel_rfl) (by kernel_rfl) (fun _ _ _ h => h) (Or.inl ⟨by rfl, ?h3y4⟩) ?r3y4
   case h3y4 => (intro W; go_simp; try with_reducible rfl)
   simp only [Act.put, setIfInBounds_toArray, set_cons_zero, set_cons_succ]
   refine wpAny_take (i := 4) (v := ?v4y5) rfl (by kernel_rfl) (by kernel_rfl) (by kernel_rfl) (fun _ _ _ h => h) (Or.inl ⟨by rfl, ?h4y5⟩) ?r4y5
   case h4y5 => (intro W; go_simp; try with_reducible rfl)
   simp only [Act.put, setIfInBounds_toArray, set_cons_zero, set_cons_succ]
   refine wpAny_ready (rs := [5, 6]) (by kernel_rfl) (by simp) ?_
   refine AllReady.cons rfl (fun K hK => ?_) (AllReady.cons rfl (fun K hK => ?_) AllReady.nil)
   ·go_simp
    refine hK _ _ ?_
    clear hK K
    try simp only [Act.put, setIfInBounds_toArray, set_cons_zero, set_cons_succ]
    refine wpAny_ready (rs := [6]) (by kernel_rfl) (by simp) ?_
    refine AllReady.cons rfl (fun K hK => ?_) AllReady.nil
    go_simp
    refine hK _ _ ?_
    clear hK K
    try simp only [Act.put, setIfInBounds_toArray, set_cons_zero, set_cons_succ]
    refine wpAny_ready (rs := [7]) (by kernel_rfl) (by simp) ?_
    refine AllReady.cons rfl (fun K hK => ?_) AllReady.nil
    go_simp
    refine (HC.out _ (ag (hba) hb1.drew)).mono ?_
    rintro e W2 ⟨⟨⟨s2a, s2b, s2c⟩, rfl, ho2⟩, hb2⟩
    have hb02 := ag (ag (hba) hb1.drew) hb2
    obtain ⟨hu3, v4, W4, hap, hfz, ⟨u5, hu5⟩, ⟨va4, vm4, vc4, rfl⟩, hP4, hb4⟩ := HT.out W2 (s2a, s2b, s2c) hb02 (ho2.lower (ag (hba) hb1.drew).size)
    have hu2 := HU.out W2 hb02
    have HP4 := ae hP4
    have HB4 := ae hb4
    have HAP := ae hap
    clear hP4 hb4 hap ho2 hb2
    refine hK _ _ ?_
    clear hK K
    try simp only [Act.put, setIfInBounds_toArray, set_cons_zero, set_cons_succ]
    refine wpAny_ready (rs := [8]) (by kernel_rfl) (by simp) ?_
    refine AllReady.cons rfl (fun K hK => ?_) AllReady.nil
    go_simp
    refine hK _ _ ?_
    clear hK K
    try simp only [Act.put, setIfInBounds_toArray, set_cons_zero, set_cons_succ]
    refine wpAny_ready (rs := [9]) (by kernel_rfl) (by simp) ?_
    refine AllReady.cons rfl (fun K hK => ?_) AllReady.nil
    refine aL _ rfl _ _ _ rfl (.slice ua um uc) _ _ W4 rfl rfl HAP.out ?_
    refine hK _ _ ?_
    clear hK K
    try simp only [Act.put, setIfInBounds_toArray, set_cons_zero, set_cons_succ]
    refine wpAny_take (i := 10) (v := ?v10y6) rfl (by kernel_rfl) (by kernel_rfl) (by kernel_rfl) (fun _ _ _ h => h) (Or.inl ⟨by rfl, ?h10y6⟩) ?r10y6
    case h10y6 => (intro W; go_simp; try with_reducible rfl)
    simp only [Act.put, setIfInBounds_toArray, set_cons_zero, set_cons_succ]
    refine wpAny_ready (rs := [11]) (by kernel_rfl) (by simp) ?_
    refine AllReady.cons rfl (fun K hK => ?_) AllReady.nil
    go_simp
    refine hK _ _ ?_
    clear hK K
    try simp only [Act.put, setIfInBounds_toArray, set_cons_zero, set_cons_succ]
    refine wpAny_done (by kernel_rfl) ?_ _
    go_wp2
    go_roundw
    case rel => exact ⟨k + 1, by omega, by go_num, HP4.out, HB4.out⟩
    case measure => simp [intOf]; omega
   ·go_simp
    refine hK _ _ ?_
    clear hK K
    try simp only [Act.put, setIfInBounds_toArray, set_cons_zero, set_cons_succ]
    refine wpAny_ready (rs := [5, 7]) (by kernel_rfl) (by simp) ?_
    refine AllReady.cons rfl (fun K hK => ?_) (AllReady.cons rfl (fun K hK => ?_) AllReady.nil)
    ·go_simp
     refine hK _ _ ?_
     clear hK K
     try simp only [Act.put, setIfInBounds_toArray, set_cons_zero, set_cons_succ]
     refine wpAny_ready (rs := [7]) (by kernel_rfl) (by simp) ?_
     refine AllReady.cons rfl (fun K hK => ?_) AllReady.nil
     go_simp
     refine (HC.out _ (ag (hba) hb1.drew)).mono ?_
     rintro e W2 ⟨⟨⟨s2a, s2b, s2c⟩, rfl, ho2⟩, hb2⟩
     have hb02 := ag (ag (hba) hb1.drew) hb2
     obtain ⟨hu3, v4, W4, hap, hfz, ⟨u5, hu5⟩, ⟨va4, vm4, vc4, rfl⟩, hP4, hb4⟩ := HT.out W2 (s2a, s2b, s2c) hb02 (ho2.lower (ag (hba) hb1.drew).size)
     have hu2 := HU.out W2 hb02
     have HP4 := ae hP4
     have HB4 := ae hb4
     have HAP := ae hap
     clear hP4 hb4 hap ho2 hb2
     refine hK _ _ ?_
     clear hK K
     try simp only [Act.put, setIfInBounds_toArray, set_cons_zero, set_cons_succ]
     refine wpAny_ready (rs := [8]) (by kernel_rfl) (by simp) ?_
     refine AllReady.cons rfl (fun K hK => ?_) AllReady.nil
     go_simp
     refine hK _ _ ?_
     clear hK K
     try simp only [Act.put, setIfInBounds_toArray, set_cons_zero, set_cons_succ]
     refine wpAny_ready (rs := [9]) (by kernel_rfl) (by simp) ?_
     refine AllReady.cons rfl (fun K hK => ?_) AllReady.nil
     refine aL _ rfl _ _ _ rfl (.slice ua um uc) _ _ W4 rfl rfl HAP.out ?_
     refine hK _ _ ?_
     clear hK K
     try simp only [Act.put, setIfInBounds_toArray, set_cons_zero, set_cons_succ]
     refine wpAny_take (i := 10) (v := ?v10y7) rfl (by kernel_rfl) (by kernel_rfl) (by kernel_rfl) (fun _ _ _ h => h) (Or.inl ⟨by rfl, ?h10y7⟩) ?r10y7
     case h10y7 => (intro W; go_simp; try with_reducible rfl)
     simp only [Act.put, setIfInBounds_toArray, set_cons_zero, set_cons_succ]
     refine wpAny_ready (rs := [11]) (by kernel_rfl) (by simp) ?_
     refine AllReady.cons rfl (fun K hK => ?_) AllReady.nil
     go_simp
     refine hK _ _ ?_
     clear hK K
     try simp only [Act.put, setIfInBounds_toArray, set_cons_zero, set_cons_succ]
     refine wpAny_done (by kernel_rfl) ?_ _
     go_wp2
     go_roundw
     case rel => exact ⟨k + 1, by omega, by go_num, HP4.out, HB4.out⟩
     case measure => simp [intOf]; omega
    ·go_simp
     refine (HC.out _ (ag (hba) hb1.drew)).mono ?_
     rintro e W2 ⟨⟨⟨s2a, s2b, s2c⟩, rfl, ho2⟩, hb2⟩
     have hb02 := ag (ag (hba) hb1.drew) hb2
     obtain ⟨hu3, v4, W4, hap, hfz, ⟨u5, hu5⟩, ⟨va4, vm4, vc4, rfl⟩, hP4, hb4⟩ := HT.out W2 (s2a, s2b, s2c) hb02 (ho2.lower (ag (hba) hb1.drew).size)
     have hu2 := HU.out W2 hb02
     have HP4 := ae hP4
     have HB4 := ae hb4
     have HAP := ae hap
     clear hP4 hb4 hap ho2 hb2
     refine hK _ _ ?_
     clear hK K
     try simp only [Act.put, setIfInBounds_toArray, set_cons_zero, set_cons_succ]
     refine wpAny_ready (rs := [5, 8]) (by kernel_rfl) (by simp) ?_
     refine AllReady.cons rfl (fun K hK => ?_) (AllReady.cons rfl (fun K hK => ?_) AllReady.nil)
     ·go_simp
      refine hK _ _ ?_
      clear hK K
      try simp only [Act.put, setIfInBounds_toArray, set_cons_zero, set_cons_succ]
      refine wpAny_ready (rs := [8]) (by kernel_rfl) (by simp) ?_
      refine AllReady.cons rfl (fun K hK => ?_) AllReady.nil
      go_simp
      refine hK _ _ ?_
      clear hK K
      try simp only [Act.put, setIfInBounds_toArray, set_cons_zero, set_cons_succ]
      refine wpAny_ready (rs := [9]) (by kernel_rfl) (by simp) ?_
      refine AllReady.cons rfl (fun K hK => ?_) AllReady.nil
      refine aL _ rfl _ _ _ rfl (.slice ua um uc) _ _ W4 rfl rfl HAP.out ?_
      refine hK _ _ ?_
      clear hK K
      try simp only [Act.put, setIfInBounds_toArray, set_cons_zero, set_cons_succ]
      refine wpAny_take (i := 10) (v := ?v10y8) rfl (by kernel_rfl) (by kernel_rfl) (by kernel_rfl) (fun _ _ _ h => h) (Or.inl ⟨by rfl, ?h10y8⟩) ?r10y8
      case h10y8 => (intro W; go_simp; try with_reducible rfl)
      simp only [Act.put, setIfInBounds_toArray, set_cons_zero, set_cons_succ]
      refine wpAny_ready (rs := [11]) (by kernel_rfl) (by simp) ?_
      refine AllReady.cons rfl (fun K hK => ?_) AllReady.nil
      go_simp
      refine hK _ _ ?_
      clear hK K
      try simp only [Act.put, setIfInBounds_toArray, set_cons_zero, set_cons_succ]
      refine wpAny_done (by kernel_rfl) ?_ _
      go_wp2
      go_roundw
      case rel => exact ⟨k + 1, by omega, by go_num, HP4.out, HB4.out⟩
      case measure => simp [intOf]; omega
     ·go_simp
      refine hK _ _ ?_
      clear hK K
      try simp only [Act.put, setIfInBounds_toArray, set_cons_zero, set_cons_succ]
      refine wpAny_ready (rs := [5]) (by kernel_rfl) (by simp) ?_
      refine AllReady.cons rfl (fun K hK => ?_) AllReady.nil
      go_simp
      refine hK _ _ ?_
      clear hK K
      try simp only [Act.put, setIfInBounds_toArray, set_cons_zero, set_cons_succ]
      refine wpAny_ready (rs := [9]) (by kernel_rfl) (by simp) ?_
      refine AllReady.cons rfl (fun K hK => ?_) AllReady.nil
      refine aL _ rfl _ _ _ rfl (.slice ua um uc) _ _ W4 rfl rfl HAP.out ?_
      refine hK _ _ ?_
      clear hK K
      try simp only [Act.put, setIfInBounds_toArray, set_cons_zero, set_cons_succ]
      refine wpAny_take (i := 10) (v := ?v10y9) rfl (by kernel_rfl) (by kernel_rfl) (by kernel_rfl) (fun _ _ _ h => h) (Or.inl ⟨by rfl, ?h10y9⟩) ?r10y9
      case h10y9 => (intro W; go_simp; try with_reducible rfl)
      simp only [Act.put, setIfInBounds_toArray, set_cons_zero, set_cons_succ]
      refine wpAny_ready (rs := [11]) (by kernel_rfl) (by simp) ?_
      refine AllReady.cons rfl (fun K hK => ?_) AllReady.nil
      go_simp
      refine hK _ _ ?_
      clear hK K
      try simp only [Act.put, setIfInBounds_toArray, set_cons_zero, set_cons_succ]
      refine wpAny_done (by kernel_rfl) ?_ _
      go_wp2
      go_roundw
      case rel => exact ⟨k + 1, by omega, by go_num, HP4.out, HB4.out⟩
      case measure => simp [intOf]; omega
  ·have hlt' : l.length ≤ k := by omega
   rw [List.take_of_length_le hlt'] at hP
   go_wp2
   go_ret2
   exact ⟨⟨_, rfl, hP.runs⟩, hbel⟩
end Go.Proofs.YtclcgakfmcofaaaGreatDoor
namespace Go.Proofs.YtclcgakfmcofaaaGreatDoor
open List (setIfInBounds_toArray set_cons_zero set_cons_succ)
open Go.RowKit Go.Shelf
shelf_lay Lays.n170 Nm 170 at Tryz as Tryz.lays170
theorem blen_any (B b : Nat) (s : ByteArray) (w : World) (h : Bld B b s w) :
  Calls Tryz.prog 138 #[.pointer (some ⟨b, 0, none⟩)] w fun e w' => e = .returned (.int .i64 s.size) ∧ w' = w := by
 refine (Any.Builder_Len Tryz.lays170 B b (Lib.strCells s) w h).mono ?_
 rintro e w' ⟨rfl, rfl⟩
 exact ⟨by rw [Lib.strCells_length], rfl⟩
end Go.Proofs.YtclcgakfmcofaaaGreatDoor
namespace Go.Proofs.YtclcgakfmcofaaaGreatDoor
open List (setIfInBounds_toArray set_cons_zero set_cons_succ)
open Go.RowKit
theorem RnS.shapeP {w : World} {v : Value} {L : List (List Rw)} (h : RnS w v L) (hl : 0 < L.length) : ∃ b off cap, v = .slice (some ⟨b, off, none⟩) L.length cap ∧ b < w.heap.size ∧ RunsC w b off L := by
 obtain ⟨a, cap, rfl, h⟩ := h
 rcases h with rfl | ⟨b, off, rfl, hb, hc⟩
 ·simp at hl
 ·exact ⟨b, off, cap, rfl, hb, hc⟩
theorem output_any (agg bound n : Int) (v : Value) (l : List Rw) (w : World) (h : WS w v l) (hcap : iD v) (hf : ed agg bound l) (hwf : WfRs l) (hm : dL n = true) (hh : bI w) :
  Calls Tryz.prog 88 #[.int .i64 agg, .int .i64 bound, .int .i64 n, v] w (ByR w (bM agg n l)) := by
 have hlen := hf.len
 have hsets : ∀ r ∈ l, r.2.2.length ≤ 100000 := fun r hr => by have := (hf.cell r hr).2.2; omega
 have H1 := ae (og agg bound v l w h hsets hcap hf.ok)
 have H2 := ae (fun W (hW : Below w.heap.size w W) => parts_any n v l W (h.below hW) (by omega) hsets hwf)
 have hor : ke l = true := by
  obtain ⟨q1, q2, q3, q4⟩ := cT hf.ok
  unfold ke
  rw [decide_eq_true q4, decide_eq_true q2, List.all_eq_true.2 (fun r hr => decide_eq_true (q3 r hr).1)]
  rfl
 have e1 : eY n l = (dM n l, 0) := by unfold eY; rw [hm, hor]; rfl
 rw [e1] at H2
 have hm8 := fj hm
 have hPl : 0 < (dM n l).length ∧ (dM n l).length ≤ 8 := by rw [show (dM n l).length = n.toNat from dK _ _ _]; omega
 have HRB := ae (fun (W : World) (u : Value) (m : List Rw) (hmm : m ∈ dM n l) (hu : WS W u m) (hc : iD u) => ol agg bound u m W hu hc (hf.sub (lW hmm)))
 have HSZ := ae (fun (m : List Rw) (hmm : m ∈ dM n l) => prt_rows (agg := agg) (bound := bound) hmm hf)
 have HBAD := ae (show ∀ m ∈ dM n l, ¬ (an agg m).size ≤ 32768 → bM agg n l = (⟨#[]⟩, 2) from fun m hmm => outRes_part (agg := agg) (n := n) (l := l) hmm)
 have HLONG := ae (show ¬ (cq agg (dM n l)).size ≤ 32704 → bM agg n l = (⟨#[]⟩, 2) from ls)
 have HOK := ae (show (∀ m ∈ dM n l, (an agg m).size ≤ 32768) → (cq agg (dM n l)).size ≤ 32704 → bM agg n l = (cq agg (dM n l), 0) from kK)
 have HP0 := hh.pos
 generalize dM n l = P at H2 HRB HSZ HBAD HLONG HOK hPl
 generalize bM agg n l = R at HBAD HLONG HOK ⊢
 have HHW := ae hh
 obtain ⟨hPl0, hPl8⟩ := hPl
 clear e1 hor hsets hwf hf hh hm8
 obtain ⟨va, vc, rfl, -⟩ := h
 go_enter Tryz.func88, Tryz.ntmps88
 go_wp2_with (first
  | (go_at_call 43; refine H1.out.mono ?_; rintro e W1 ⟨rfl, hb1⟩)
  | (go_at_call 135; refine (H2.out W1 hb1).mono ?_; rintro e W2 ⟨⟨vp, rfl, hrs⟩, hb2⟩; have hrn : RnS W2 vp P := hrs.rns; obtain ⟨g, off, pc, rfl, hgb, hrc⟩ := hrn.shapeP hPl0; clear hrn))
 have hbd := Bld.new W2
 have hb02 := ag hb1 hb2
 have hb3 := (Below.refl W2.heap.size W2).alloc (Nat.le_refl _) (.cells #[.pointer none, .slice none 0 0] 70)
 have hH2 : bI W2 := HHW.out.below hb02 HP0
 have hP2 := hH2.pos
 generalize hWB : W2.alloc (.cells #[.pointer none, .slice none 0 0] 70) = W3 at hbd hb3 ⊢
 have hB3 : W2.heap.size ≤ W3.heap.size := by rw [← hWB]; simp
 obtain ⟨B, hB⟩ : ∃ B, B = W2.heap.size := ⟨_, rfl⟩
 rw [← hB] at hbd hB3 ⊢
 have HRC := ae hrc
 have hwB : w.heap.size ≤ B := by rw [hB]; exact hb02.size
 have HB2 := ae hb02
 have HH2 := ae hH2
 have HEB := ae hB
 have hBle : B ≤ W2.heap.size := by omega
 clear hB hWB hrs hrc hb1 hb2 hb02 H1 H2 hH2
 go_loopw [38] (fun i wr => ∃ k : Nat, k ≤ P.length ∧ i = .int .i64 k ∧ Bld B B (cq agg (P.take k)) wr ∧ Below W2.heap.size W2 wr ∧ Hid (∀ m ∈ P.take k, (an agg m).size ≤ 32768)) (fun i _ => P.length - (intOf i).toNat)
 case atStart => exact ⟨0, by omega, rfl, hbd, hb3, fun m hm => by simp at hm⟩
 case round =>
  clear hbd hb3 hB3
  rename World => w0
  obtain ⟨k, hk, rfl, hbd, hbel, HSM⟩ := hrel
  have hsz := hbel.size
  by_cases hlt : k < P.length
  ·obtain ⟨m, hy⟩ := ak hlt
   have hmm := List.mem_of_getElem? hy
   obtain ⟨u, hu0, hus, huc⟩ := HRC.out k m hy
   have hu := (hbel.cell (p := ⟨g, off + k, none⟩) hgb).trans hu0
   have HR1 := ae (HRB.out w0 u m hmm (hus.below hbel) huc)
   have hs1 := HSZ.out m hmm
   have hstep : cq agg (P.take (k + 1)) = cq agg (P.take k) ++ aF (an agg m) := by
    rw [List.take_add_one, hy]
    exact oG _ _ _
   have hsOut := oH agg (P.take k) (fun x hx => HSZ.out x (List.mem_of_mem_take hx))
   have hkl : (P.take k).length ≤ 8 := by rw [List.length_take]; omega
   have hHw0 : bI w0 := HH2.out.below hbel hP2
   have HBD := ae hbd
   have HBEL := ae hbel
   have HB1 := ae (HBAD.out m hmm)
   have HSM2 := ae (show (an agg m).size ≤ 32768 → ∀ x ∈ P.take (k + 1), (an agg x).size ≤ 32768 from fun hs x hx => by
    rw [List.take_add_one, hy] at hx
    rcases List.mem_append.1 hx with hx | hx
    ·exact HSM.out x hx
    ·simp at hx; subst hx; exact hs)
   have HST := ae hstep
   obtain ⟨ua, uc, rfl, -⟩ := id hus
   generalize an agg m = s at HR1 hs1 HB1 HSM2 HST
   obtain ⟨Z, hZ⟩ : ∃ Z, Z = cq agg (P.take k) := ⟨_, rfl⟩
   obtain ⟨Z1, hZ1⟩ : ∃ Z1, Z1 = cq agg (P.take (k + 1)) := ⟨_, rfl⟩
   have HZ1 := ae hZ1
   rw [← hZ] at HBD HST hsOut
   rw [← hZ1] at HST
   clear hstep hu0 hus huc hbd hbel HSM hZ hZ1
   by_cases hbig : s.size ≤ 32768
   ·have HF := ae (fun W (hW : Below w0.heap.size w0 W) => pk s W hbig (hHw0.below hW hHw0.pos))
    have hfs := dv s
    generalize aF s = f at HF HST hfs
    go_wp2_with (first
     | (go_at_call 136; refine HR1.out.mono ?_; rintro e W4 ⟨rfl, hb4⟩)
     | (go_at_call 137; refine (HF.out W4 hb4).mono ?_; rintro e W5 ⟨rfl, hb5⟩; have hb05 := ag hb4 hb5; have HW := ae (iT B B Z f W5 (HBD.out.below hb05) (by omega) (by have := hb05.size; omega))))
    refine HW.out.mono ?_
    rintro e W6 ⟨rfl, hbd6, hb6⟩
    have HF6 := ae (show Bld B B Z1 W6 ∧ Below W2.heap.size W2 W6 from ⟨by rw [HST.out]; exact hbd6, (ag HBEL.out hb05).trans (by rw [← HEB.out]; exact hb6)⟩)
    clear hbd6 hb6
    go_wp2
    go_roundw
    case rel => exact ⟨k + 1, by omega, by go_num, by rw [← HZ1.out]; exact HF6.out.1, HF6.out.2, HSM2.out hbig⟩
    case measure => simp [intOf]; omega
   ·have HF := ae (fun W => nj s W (by omega))
    go_wp2_with (first
     | (go_at_call 136; refine HR1.out.mono ?_; rintro e W4 ⟨rfl, hb4⟩)
     | (go_at_call 137; refine (HF.out W4).mono ?_; rintro e W5 ⟨rfl, hw5⟩; subst W5))
    go_ret2
    exact ⟨by rw [HB1.out hbig]; rfl, ag HB2.out (ag HBEL.out hb4)⟩
  ·have hlt' : P.length ≤ k := by omega
   rw [List.take_of_length_le hlt'] at hbd HSM
   have HC := ae (li B B _ w0 hbd (by omega))
   have HL := ae (blen_any B B _ w0 hbd)
   have HBE := ae (ag HB2.out hbel)
   by_cases hlong : (cq agg P).size ≤ 32704
   ·have HE := HOK.out HSM.out hlong
    have HE := ae HE
    generalize cq agg P = s at HC HL hlong HE
    clear hbd HSM HBAD HLONG HOK
    go_wp2_with (first
     | (go_at_call 138; refine HL.out.mono ?_; rintro e W3 ⟨rfl, hw3⟩; subst W3)
     | (go_at_call 35; refine HC.out.mono ?_; rintro e W3 ⟨rfl, hb3⟩))
    go_ret2
    exact ⟨by rw [HE.out]; rfl, HBE.out.trans (hb3.mono hwB)⟩
   ·have HE := HLONG.out hlong
    have HE := ae HE
    generalize cq agg P = s at HC HL hlong HE
    clear hbd HSM HBAD HLONG HOK
    go_wp2_with (first
     | (go_at_call 138; refine HL.out.mono ?_; rintro e W3 ⟨rfl, hw3⟩; subst W3))
    go_ret2
    exact ⟨by rw [HE.out]; rfl, HBE.out⟩
end Go.Proofs.YtclcgakfmcofaaaGreatDoor
