/- Two cells together: the page's. -/
import Derived.Test.YticpaemmdfmbfaaJ20
import Derived.Test.YticpaemmdfmbfaaJ22
namespace Go.Proofs.Yticpaemmdfmbfaa
open Go.RowKit
set_option linter.unusedVariables false
set_option maxRecDepth 100000

theorem jw_num (w : World) (a b : Cl) (va vb : Value) (n : Int) : BlkC (((w.alloc (.cells #[.int .i64 a.1, va] 60)).alloc (.cells #[.int .i64 b.1, vb] 60)).alloc (.cells #[.int .i64 n, .slice none 0 0] 60)) (w.heap.size + 1 + 1) n (.slice none 0 0) ∧
    Below w.heap.size w (((w.alloc (.cells #[.int .i64 a.1, va] 60)).alloc (.cells #[.int .i64 b.1, vb] 60)).alloc (.cells #[.int .i64 n, .slice none 0 0] 60)) := by
  have n3 := BlkC.new ((w.alloc (.cells #[.int .i64 a.1, va] 60)).alloc (.cells #[.int .i64 b.1, vb] 60)) n (.slice none 0 0)
  have st : ∀ (W : World) (o : Obj), Below W.heap.size W (W.alloc o) := fun W o => (Below.refl _ _).alloc (Nat.le_refl _) _
  exact ⟨by simpa using n3, nxt (nxt (st _ _) (st _ _)) (st _ _)⟩
set_option maxHeartbeats 400000 in
theorem rjoinN_any (agg : Int) (bd : Int) (va vb : Value) (a b : Cl) (w : World) (ha : CS w va a) (hb : CS w vb b) (wa : WfC a) (wb : WfC b) (h1 : 1 ≤ agg) (h5 : agg ≤ 5) (pa : nP agg a.1) (pb : nP agg b.1) :
    Calls Try.prog 55 #[.int .i64 agg, .int .i64 bd, va, vb] w (CellR w (nF agg a.1 b.1, []) 0) := by
  obtain ⟨aa, ca, rfl, na⟩ := ha
  obtain ⟨ab, cb, rfl, nb⟩ := hb
  clear na nb
  obtain ⟨wa1, wa2⟩ := wa.1
  obtain ⟨wb1, wb2⟩ := wb.1
  have FIN := hidM (fun n => jw_num w a b (.slice aa a.2.length ca) (.slice ab b.2.length cb) n)
  clear wa wb
  obtain ⟨na, la⟩ := a
  obtain ⟨nb, lb⟩ := b
  simp only at *
  have hk : agg = 1 ∨ agg = 2 ∨ agg = 3 ∨ agg = 4 ∨ agg = 5 := by omega
  rcases hk with rfl | rfl | rfl | rfl | rfl
  · show Calls _ _ _ _ (CellR w (wrap64 (na + nb), []) 0)
    clear pa pb h1 h5
    go_enter Try.func55, Try.ntmps55
    go_wp2
    exact bodyPost_ret (results_cell2 rfl rfl (FIN.out _).1.load) rfl ⟨⟨_, rfl, OwnC.num _ _ _⟩, (FIN.out _).2⟩
  · obtain ⟨a0, a1⟩ := pa rfl
    obtain ⟨b0, b1⟩ := pb rfl
    show Calls _ _ _ _ (CellR w (cntF na nb, []) 0)
    unfold cntF
    by_cases hlt : 4611686018427387904 - nb < na
    · rw [if_pos hlt]
      go_enter Try.func55, Try.ntmps55
      go_wp2
      exact bodyPost_ret (results_cell2 rfl rfl (FIN.out _).1.load) rfl ⟨⟨_, rfl, OwnC.num _ _ _⟩, (FIN.out _).2⟩
    · rw [if_neg hlt]
      go_enter Try.func55, Try.ntmps55
      go_wp2
      exact bodyPost_ret (results_cell2 rfl rfl (FIN.out _).1.load) rfl ⟨⟨_, rfl, OwnC.num _ _ _⟩, (FIN.out _).2⟩
  · show Calls _ _ _ _ (CellR w (min na nb, []) 0)
    clear pa pb h1 h5
    go_enter Try.func55, Try.ntmps55
    go_wp2
    exact bodyPost_ret (results_cell2 rfl rfl (FIN.out _).1.load) rfl ⟨⟨_, rfl, OwnC.num _ _ _⟩, (FIN.out _).2⟩
  · show Calls _ _ _ _ (CellR w (max na nb, []) 0)
    clear pa pb h1 h5
    go_enter Try.func55, Try.ntmps55
    go_wp2
    exact bodyPost_ret (results_cell2 rfl rfl (FIN.out _).1.load) rfl ⟨⟨_, rfl, OwnC.num _ _ _⟩, (FIN.out _).2⟩
  · show Calls _ _ _ _ (CellR w (bits .or .i64 na nb, []) 0)
    clear pa pb h1 h5
    go_enter Try.func55, Try.ntmps55
    go_wp2
    exact bodyPost_ret (results_cell2 rfl rfl (FIN.out _).1.load) rfl ⟨⟨_, rfl, OwnC.num _ _ _⟩, (FIN.out _).2⟩
/-- What holds all along the merging. -/
structure MJR (W0 : World) (a b : List Int) (i k : Nat) (l : List Int) (v : Value) (W : World) : Prop where
  mj : MJ a b i k l
  own : OwnL W W0.heap.size v l
  bel : Below W0.heap.size W0 W
theorem MJR.len {W0 W : World} {a b l : List Int} {i k : Nat} {v : Value} (h : MJR W0 a b i k l v W) (hi : i ≤ 50000) (hk : k ≤ 50000) : l.length ≤ 1000000 := by have := h.mj.len; omega
theorem MJR.drew {W0 W : World} {a b l : List Int} {i k : Nat} {v : Value} (h : MJR W0 a b i k l v W) (q : Nat) : OwnL (W.drewN q) W0.heap.size v l ∧ Below W0.heap.size W0 (W.drewN q) := ⟨h.own, h.bel.trans ((Drawn.refl W).step q |>.below _)⟩
set_option maxHeartbeats 2000000 in
theorem rjoinS_any (bd : Nat) (va vb : Value) (a b : Cl) (w : World) (ha : CS w va a) (hb : CS w vb b) (ra : Rise a.2) (rb : Rise b.2) (hla : a.2.length ≤ 50000) (hlb : b.2.length ≤ 50000) :
    Calls Try.prog 55 #[.int .i64 6, .int .i64 (bd : Int), va, vb] w (CellR w (joinS bd a.2 b.2).1 (joinS bd a.2 b.2).2) := by
  obtain ⟨aa, ca, rfl, na⟩ := ha
  obtain ⟨ab, cb, rfl, nb⟩ := hb
  obtain ⟨W, hW⟩ : ∃ W : World, W = jw w a b (.slice aa a.2.length ca) (.slice ab b.2.length cb) := ⟨_, rfl⟩
  have hJ : JW w W a b (.slice aa a.2.length ca) (.slice ab b.2.length cb) := by rw [hW]; exact jw_ok _ _ _ _ _
  have na1 := na.below hJ.bel
  have nb1 := nb.below hJ.bel
  have HJ := hidM hJ
  have HW := hidM (show ((w.alloc (.cells #[.int .i64 a.1, .slice aa a.2.length ca] 60)).alloc (.cells #[.int .i64 b.1, .slice ab b.2.length cb] 60)).alloc (.cells #[.int .i64 0, .slice none 0 0] 60) = W from hW.symm)
  obtain ⟨na, la⟩ := a
  obtain ⟨nb, lb⟩ := b
  simp only at *
  have HA := hidM (show ∀ i x, la[i]? = some x → ∃ p o, aa = some ⟨p, o, none⟩ ∧ ∀ W', Below W.heap.size W W' → W'.cell? ⟨p, o + i, none⟩ = some (.int .i64 x) from fun i x hx => by
    obtain ⟨a', c', e, h⟩ := na1
    injection e with e1 e2 e3
    subst e1 e3
    rcases h with rfl | ⟨p, o, rfl, hp, hat⟩
    · simp at hx
    · exact ⟨p, o, rfl, fun W' hW' => hat.below hW' hp i x hx⟩)
  have HN := hidM (show ∀ i x, lb[i]? = some x → ∃ p o, ab = some ⟨p, o, none⟩ ∧ ∀ W', Below W.heap.size W W' → W'.cell? ⟨p, o + i, none⟩ = some (.int .i64 x) from fun i x hx => by
    obtain ⟨a', c', e, h⟩ := nb1
    injection e with e1 e2 e3
    subst e1 e3
    rcases h with rfl | ⟨p, o, rfl, hp, hat⟩
    · simp at hx
    · exact ⟨p, o, rfl, fun W' hW' => hat.below hW' hp i x hx⟩)
  have hsz := hJ.sz
  clear hJ hW na1 nb1
  obtain ⟨ka, hka⟩ : ∃ ka, la.length = ka := ⟨_, rfl⟩
  obtain ⟨kb, hkb⟩ : ∃ kb, lb.length = kb := ⟨_, rfl⟩
  rw [hka] at hla HJ HW ⊢
  rw [hkb] at hlb HJ HW ⊢
  obtain ⟨res, hres⟩ : ∃ res, joinS bd la lb = res := ⟨_, rfl⟩
  rw [hres]
  have HRES := hidM hres
  have HRA := hidM ra
  have HRB := hidM rb
  have HKA := hidM hka
  have HKB := hidM hkb
  have HSZ := hidM hsz
  clear hres ra rb hka hkb hsz
  go_enter Try.func55, Try.ntmps55
  go_wp2
  rw [HW.out]
  go_loopw [10, 11, 12] (fun v i k wr => ∃ (x y : Nat) (l : List Int), x ≤ ka ∧ y ≤ kb ∧ i = .int .i64 (x : Int) ∧ k = .int .i64 (y : Int) ∧ Hid (MJR W la lb x y l v wr)) (fun _ i k _ => ka + kb - (intOf i).toNat - (intOf k).toNat)
  case atStart => exact ⟨0, 0, [], by omega, by omega, rfl, rfl, MJ.start _ _, OwnL.nil _ _, Below.refl _ _⟩
  case round =>
    obtain ⟨x, y, l, hx, hy, rfl, rfl, HM⟩ := hrel
    obtain ⟨b3, ba3, bb3, br3, sz3⟩ := HJ.out.next HM.out.bel
    obtain ⟨a0, a1, -, -⟩ := ba3.cells
    obtain ⟨e0, e1, -, -⟩ := bb3.cells
    have HX := hidM hx
    have HY := hidM hy
    by_cases hxa : x < ka
    · obtain ⟨u, hu⟩ := getSome (l := la) (i := x) (by have := HKA.out; omega)
      obtain ⟨p, o, rfl, hcu⟩ := HA.out x u hu
      have c0 := hcu _ HM.out.bel
      have HU := hidM hu
      clear hu hcu
      have hx0 : (0 : Int) ≤ x := by omega
      have hxk : (x : Int) < ka := by omega
      by_cases hyb : y < kb
      · obtain ⟨z, hz⟩ := getSome (l := lb) (i := y) (by have := HKB.out; omega)
        obtain ⟨p', o', rfl, hcz⟩ := HN.out y z hz
        have c1 := hcz _ HM.out.bel
        have HZ := hidM hz
        clear hz hcz
        have hy0 : (0 : Int) ≤ y := by omega
        have hyk : (y : Int) < kb := by omega
        have hne : ((y : Int) == kb) = false := by simp; omega
        by_cases h1 : u < z
        · go_wp2
          go_quiet (fail)
          go_wp2_with (at_builtin; refine wpApp rfl _ _ rfl rfl rfl (HM.out.drew _).1 (HM.out.len (by omega) (by omega)) HM.out.bel.size ?_; intro v' W' ho' hb')
          go_roundw
          case rel => exact ⟨x + 1, y, _, by omega, by omega, by go_num, rfl, HM.out.mj.left HRA.out HRB.out HU.out (.inr ⟨z, HZ.out, h1⟩), ho', hb' _ (HM.out.drew _).2⟩
          case measure => simp [intOf]; omega
        · by_cases h2 : z < u
          · have hnx : ((x : Int) == ka) = false := by simp; omega
            go_wp2
            go_quiet (fail)
            go_wp2
            go_quiet (fail)
            go_wp2_with (at_builtin; refine wpApp rfl _ _ rfl rfl rfl (HM.out.drew _).1 (HM.out.len (by omega) (by omega)) HM.out.bel.size ?_; intro v' W' ho' hb')
            go_roundw
            case rel => exact ⟨x, y + 1, _, by omega, by omega, rfl, by go_num, HM.out.mj.right HRA.out HRB.out HZ.out (.inr ⟨u, HU.out, h2⟩), ho', hb' _ (HM.out.drew _).2⟩
            case measure => simp [intOf]; omega
          · have hnx : ((x : Int) == ka) = false := by simp; omega
            obtain rfl : u = z := by omega
            go_wp2
            go_quiet (fail)
            go_wp2
            go_quiet (fail)
            go_wp2_with (at_builtin; refine wpApp rfl _ _ rfl rfl rfl (HM.out.drew _).1 (HM.out.len (by omega) (by omega)) HM.out.bel.size ?_; intro v' W' ho' hb')
            go_roundw
            case rel => exact ⟨x + 1, y + 1, _, by omega, by omega, by go_num, by go_num, HM.out.mj.both HRA.out HRB.out HU.out HZ.out, ho', hb' _ (HM.out.drew _).2⟩
            case measure => simp [intOf]; omega
      · obtain rfl : y = kb := by omega
        go_wp2
        go_quiet (fail)
        go_wp2_with (at_builtin; refine wpApp rfl _ _ rfl rfl rfl (HM.out.drew _).1 (HM.out.len (by omega) (by omega)) HM.out.bel.size ?_; intro v' W' ho' hb')
        go_roundw
        case rel => exact ⟨x + 1, y, _, by omega, by omega, by go_num, rfl, HM.out.mj.left HRA.out HRB.out HU.out (.inl (Nat.le_of_eq HKB.out)), ho', hb' _ (HM.out.drew _).2⟩
        case measure => simp [intOf]; omega
    · obtain rfl : x = ka := by omega
      by_cases hyb : y < kb
      · obtain ⟨z, hz⟩ := getSome (l := lb) (i := y) (by have := HKB.out; omega)
        obtain ⟨p', o', rfl, hcz⟩ := HN.out y z hz
        have c1 := hcz _ HM.out.bel
        have HZ := hidM hz
        clear hz hcz
        have hy0 : (0 : Int) ≤ y := by omega
        have hyk : (y : Int) < kb := by omega
        have hne : ((y : Int) == kb) = false := by simp; omega
        go_wp2
        go_quiet (fail)
        go_wp2
        go_quiet (fail)
        go_wp2_with (at_builtin; refine wpApp rfl _ _ rfl rfl rfl (HM.out.drew _).1 (HM.out.len (by omega) (by omega)) HM.out.bel.size ?_; intro v' W' ho' hb')
        go_roundw
        case rel => exact ⟨x, y + 1, _, by omega, by omega, rfl, by go_num, HM.out.mj.right HRA.out HRB.out HZ.out (.inl (Nat.le_of_eq HKA.out)), ho', hb' _ (HM.out.drew _).2⟩
        case measure => simp [intOf]; omega
      · obtain rfl : y = kb := by omega
        have hl : l = uni la lb := HM.out.mj.done (Nat.le_of_eq HKA.out) (Nat.le_of_eq HKB.out) HRB.out
        have hr := HRES.out
        unfold joinS at hr
        rw [← hl] at hr
        obtain ⟨b4, k0, k1, p0⟩ := br3.cells
        obtain ⟨-, k1', -, p1'⟩ := (br3.set0 0).cells
        have hown := HM.out.own
        obtain ⟨a5, c5, rfl⟩ := hown.shape
        have HOWN := hidM hown
        clear hl hown
        by_cases hle : l.length ≤ bd
        · rw [if_pos hle] at hr
          subst hr
          go_wp2
          exact bodyPost_ret (results_cell2 rfl rfl br3.set.load) rfl ⟨⟨_, rfl, _, _, rfl, (own_set (b := w.heap.size + 1 + 1) HOWN.out (by have := HSZ.out; omega) _ _).lower (base' := w.heap.size) (by have := HSZ.out; omega)⟩, below_set (b := w.heap.size + 1 + 1) b3 (by omega) _ _⟩
        · rw [if_neg hle] at hr
          subst hr
          go_wp2
          exact bodyPost_ret (results_cell2 rfl rfl br3.set.load) rfl ⟨⟨_, rfl, OwnC.num _ _ _⟩, below_set (b := w.heap.size + 1 + 1) b3 (by omega) _ _⟩
end Go.Proofs.Yticpaemmdfmbfaa
