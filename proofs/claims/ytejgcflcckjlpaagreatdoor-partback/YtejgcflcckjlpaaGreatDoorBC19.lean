/- One more is gathered, under a key that is there: row's add. -/
import Derived.Test.YtejgcflcckjlpaaGreatDoorBC14
import Derived.Test.YtejgcflcckjlpaaGreatDoorBC18
namespace Go.Proofs.YtejgcflcckjlpaaGreatDoor
open Go.RowKit Go.Maps
set_option linter.unusedVariables false
set_option maxRecDepth 100000

theorem putR_same {J : Cl → Cl → Cl × Int} {k : Ky} {c d : Cl} {st : List Rw} (hr : RiseK st) (hd : look st k = some d) (he : (J d c).2 ≠ 0) : (putR J k c st).1 = st :=
  riseK_ext (rise_putR hr) hr fun x => by
    rw [look_putR hr, hd, both, if_neg he]
    split
    · next e => rw [e, hd]
    · rfl
theorem Gat.mono {W : World} {base gp mp n n' : Nat} {agg bound : Int} {st : List Rw} {bad : Int} (h : Gat W base gp mp agg bound st bad n) (hn : n ≤ n') : Gat W base gp mp agg bound st bad n' := by
  obtain ⟨D, hom, hmc⟩ := h.mo
  exact ⟨h.gb, ⟨D, hom.mono hn, hmc⟩, h.hg, h.hm⟩
/-- The error is set. -/
theorem Gat.setBad {W : World} {base gp mp n : Nat} {agg bound : Int} {st : List Rw} {bad : Int} (e : Int) (h : Gat W base gp mp agg bound st bad n) : Gat (W.setCell ⟨gp, 3, none⟩ (.int .i64 e)) base gp mp agg bound st e n := by
  obtain ⟨D, hom, hmc⟩ := h.mo
  have hlt := (Array.getElem?_eq_some_iff.1 h.gb).1
  have hne : mp ≠ gp := by
    obtain ⟨es, clock, hb, _⟩ := hom
    intro e
    subst e
    rw [h.gb] at hb
    cases hb
  refine ⟨?_, ⟨D, hom.setCell hne _, hmc.keep ?_⟩, h.hg, h.hm⟩
  · have := h.gb
    simp [World.setCell, Array.getElem?_modify, this]
  · refine ⟨by simp [World.setCell], fun g cur hg => ?_⟩
    have hgn : gp ≠ g := by
      intro e
      subst e
      rw [h.gb] at hg
      injection hg with hg
      injection hg with _ hg
      cases hg
    simp [World.setCell, Array.getElem?_modify, hgn, hg]
/-- A cell's block that was there ahead of a call. -/
theorem with_blk {W W' : World} {b : Nat} {n : Int} {v : Value} {G : Prop} (h : BlkC W b n v) (hb : Below W.heap.size W W') (m : Int)
    (k : W'.cell? ⟨b, 0, none⟩ = some (.int .i64 n) ∧ W'.cell? ⟨b, 1, none⟩ = some v ∧ W'.frozen? ⟨b, 0, none⟩ = false ∧ W'.frozen? ⟨b, 1, none⟩ = false ∧ (W'.setCell ⟨b, 0, none⟩ (.int .i64 m)).cell? ⟨b, 1, none⟩ = some v ∧ (W'.setCell ⟨b, 0, none⟩ (.int .i64 m)).frozen? ⟨b, 1, none⟩ = false → G) : G := by
  have h' := h.below hb
  exact k ⟨h'.cells.1, h'.cells.2.1, h'.cells.2.2.1, h'.cells.2.2.2, (h'.set0 m).cells.2.1, (h'.set0 m).cells.2.2.2⟩
set_option maxHeartbeats 1000000 in
theorem add_old (gp mp base n : Nat) (agg bound : Int) (st : List Rw) (bad : Int) (k : Ky) (c d : Cl) (a : Option Addr) (cap : Nat) (w : World) (h : Gat w base gp mp agg bound st bad n) (hb : base ≤ w.heap.size) (hn : n < 1000000)
    (hk : Good k) (hc : NS w (.slice a c.2.length cap) c.2) (hl : c.2.length ≤ 32) (hlook : look st k = some d) (hr : RiseK st) (hcc : chk agg bound c = true) (hcd : chk agg bound d = true) (wc : WfC c) (wd : WfC d) (hld : d.2.length ≤ 32) :
    Calls Tryz.prog 47 #[.pointer (some ⟨gp, 0, none⟩), keyV k, .agg #[.int .i64 c.1, .slice a c.2.length cap]] w fun e w' =>
      e = .returned (.tuple #[]) ∧ Gat w' base gp mp agg bound (putR (joinC agg bound.toNat) k c st).1 (if (joinC agg bound.toNat d c).2 = 0 then bad else (joinC agg bound.toNat d c).2) (n + 1) ∧ Below base w w' := by
  obtain ⟨D, hom, hmc⟩ := h.mo
  obtain ⟨ka, kb⟩ := k
  obtain ⟨c1, c2⟩ := c
  obtain ⟨s, hat, hos⟩ := hmc.yes _ _ hk hlook
  obtain ⟨sa, scap, hs'⟩ := hos.shape
  obtain ⟨s1, s2, s3⟩ := s
  injection hs' with e1 e2 e3
  subst e1 e2 e3
  obtain ⟨d1, d2⟩ := d
  simp only at hc hl hat hos ⊢
  simp only [keyV]
  obtain ⟨W0, hW0⟩ : ∃ W0 : World, W0 = (w.alloc (.cells #[.int .i64 ka, .string kb] 42)).alloc (.cells #[.int .i64 c1, .slice a c2.length cap] 45) := ⟨_, rfl⟩
  have hbx : Bx w W0 (ka, kb) c1 (.slice a c2.length cap) := by rw [hW0]; exact bx_ok w (ka, kb) _ _
  obtain ⟨hb0, hs0, bk, bc⟩ := hbx
  obtain ⟨k0, k1⟩ := blk2 bk
  obtain ⟨l0, l1, -, -⟩ := bc.cells
  have h0 := h.below hb0
  obtain ⟨g0, g1, g2, g3, g4⟩ := h0.cells
  have st1 : ∀ (W : World) (o : Obj), Below W.heap.size W (W.alloc o) := fun W o => (Below.refl _ _).alloc (Nat.le_refl _) _
  have hm0 : W0.ownsMap Tryz.prog 42 RC mp n D := by
    obtain ⟨es, clock, hb1, r⟩ := hom
    exact ⟨es, clock, by rw [hb0.block mp (Array.getElem?_eq_some_iff.1 hb1).1]; exact hb1, r⟩
  have r1 := look_yes hm0.drew hk hat
  have r2 := look_yes (hm0.alloc (.cells #[.int .i64 0, .slice none 0 0] 45)).drew hk hat
  simp only [keyV] at r1 r2
  obtain ⟨Wz, hWz⟩ : ∃ Wz : World, Wz = W0.alloc (.cells #[.int .i64 0, .slice none 0 0] 45) := ⟨_, rfl⟩
  obtain ⟨Wy, hWy⟩ : ∃ Wy : World, Wy = W0.alloc (.cells #[.int .i64 d1, .slice s1 d2.length s3] 45) := ⟨_, rfl⟩
  have hbz : Below W0.heap.size W0 Wz := by rw [hWz]; exact st1 _ _
  have hby : Below W0.heap.size W0 Wy := by rw [hWy]; exact st1 _ _
  have bd : BlkC Wy (w.heap.size + 2) d1 (.slice s1 d2.length s3) := by
    have := BlkC.new W0 d1 (.slice s1 d2.length s3)
    rw [hs0] at this
    rw [hWy]
    exact this
  have hy := h0.below hby
  have bcy := bc.below hby
  have bky : Wy.heap[w.heap.size]? = some (.cells #[.int .i64 ka, .string kb] 42 (0, 0)) := (hby.block w.heap.size (by omega)).trans bk
  have Y := hidM (show ∀ W, Below W0.heap.size W0 W → W.cell? ⟨gp, 2, none⟩ = some (.map (some mp)) ∧ W.cell? ⟨w.heap.size, 0, none⟩ = some (.int .i64 ka) ∧ W.cell? ⟨w.heap.size, 1, none⟩ = some (.string kb) from fun W hW =>
    ⟨(h0.below hW).cells.2.2.1, (hW.cell (p := ⟨w.heap.size, 0, none⟩) (by show w.heap.size < _; omega)).trans k0, (hW.cell (p := ⟨w.heap.size, 1, none⟩) (by show w.heap.size < _; omega)).trans k1⟩)
  have hwy : Below w.heap.size w Wy := nxt hb0 hby
  have hsy : Wy.heap.size = w.heap.size + 3 := by rw [hWy]; simp; omega
  have KJ := hidM (show ∀ W, Below Wy.heap.size Wy W → W.cell? ⟨gp, 0, none⟩ = some (.int .i64 agg) ∧ W.cell? ⟨gp, 1, none⟩ = some (.int .i64 bound) ∧ W.cell? ⟨w.heap.size + 2, 0, none⟩ = some (.int .i64 d1) ∧ W.cell? ⟨w.heap.size + 2, 1, none⟩ = some (.slice s1 d2.length s3) ∧ W.cell? ⟨w.heap.size + 1, 0, none⟩ = some (.int .i64 c1) ∧ W.cell? ⟨w.heap.size + 1, 1, none⟩ = some (.slice a c2.length cap) ∧ Below Wy.heap.size Wy W from fun W hW =>
    ⟨(hy.below hW).cells.1, (hy.below hW).cells.2.1, (bd.below hW).cells.1, (bd.below hW).cells.2.1, (bcy.below hW).cells.1, (bcy.below hW).cells.2.1, hW⟩)
  have JN := hidM (fun W (hW : Below Wy.heap.size Wy W) => join_any agg bound _ _ (d1, d2) (c1, c2) W ⟨s1, s3, rfl, (OwnL.ns hos).below (nxt hwy hW)⟩ ⟨a, cap, rfl, hc.below (nxt hwy hW)⟩ wd wc (by show d2.length ≤ 50000; have : d2.length ≤ 32 := hld; omega) (by show c2.length ≤ 50000; omega))
  rw [joinR_of hcd hcc] at JN
  have B8 := hidM (show BlkC (Wy.alloc (.cells #[.int .i64 0, .slice none 0 0] 45)).drew.drew (w.heap.size + 3) 0 (.slice none 0 0) from by
    have := BlkC.new Wy 0 (.slice none 0 0)
    rw [hsy] at this
    exact this)
  have HW := hidM hW0.symm
  have HZ := hidM hWz.symm
  have HY := hidM hWy.symm
  obtain ⟨⟨⟨r1, r2⟩, re⟩, hre⟩ : ∃ r : Cl × Int, r = joinC agg bound.toNat (d1, d2) (c1, c2) := ⟨_, rfl⟩
  rw [← hre] at JN ⊢
  simp only at JN ⊢
  have HJ : Hid (joinC agg bound.toNat (d1, d2) (c1, c2) = ((r1, r2), re)) := hre.symm
  clear hW0 hWz hWy hre
  go_enter Tryz.func47, Tryz.ntmps47
  go_wp2_with fail
  rw [HW.out]
  go_region_held3 (fun W' => W'.cell? ⟨gp, 2, none⟩ = some (.map (some mp)) ∧ W'.cell? ⟨w.heap.size, 0, none⟩ = some (.int .i64 ka) ∧ W'.cell? ⟨w.heap.size, 1, none⟩ = some (.string kb))
    (first | exact ⟨g2, k0, k1⟩ | (rw [HZ.out]; exact Y.out _ hbz.drew) | (rw [HY.out]; exact Y.out _ hby.drew))
    (fail)
  all_goals
    rw [HY.out]
    go_wp2_with fail
    go_region_held3 (fun W' => W'.cell? ⟨gp, 0, none⟩ = some (.int .i64 agg) ∧ W'.cell? ⟨gp, 1, none⟩ = some (.int .i64 bound) ∧ W'.cell? ⟨w.heap.size + 2, 0, none⟩ = some (.int .i64 d1) ∧ W'.cell? ⟨w.heap.size + 2, 1, none⟩ = some (.slice s1 d2.length s3) ∧ W'.cell? ⟨w.heap.size + 1, 0, none⟩ = some (.int .i64 c1) ∧ W'.cell? ⟨w.heap.size + 1, 1, none⟩ = some (.slice a c2.length cap) ∧ Below Wy.heap.size Wy W')
      (first
        | exact KJ.out _ (Below.refl _ _).drew.drew
        | exact KJ.out _ ((Below.refl Wy.heap.size Wy).alloc (Nat.le_refl _) _).drew.drew
        | exact KJ.out _ (nxt (‹_ ∧ _ ∧ _ ∧ _ ∧ _ ∧ _ ∧ Below Wy.heap.size Wy _›).2.2.2.2.2.2 hb5)
        | exact KJ.out _ ((‹_ ∧ _ ∧ _ ∧ _ ∧ _ ∧ _ ∧ Below Wy.heap.size Wy _›).2.2.2.2.2.2.alloc (‹_ ∧ _ ∧ _ ∧ _ ∧ _ ∧ _ ∧ Below Wy.heap.size Wy _›).2.2.2.2.2.2.size _)
        | exact KJ.out _ ((nxt ((Below.refl Wy.heap.size Wy).drew.drew) hb5).alloc (nxt ((Below.refl Wy.heap.size Wy).drew.drew) hb5).size _)
        | exact KJ.out _ (below_set (‹_ ∧ _ ∧ _ ∧ _ ∧ _ ∧ _ ∧ Below Wy.heap.size Wy _›).2.2.2.2.2.2 (by first | exact Nat.le_refl _ | omega) _ _)
        | (trace_state; fail))
      (first | (go_at_call 58; refine (JN.out _ (‹_ ∧ _ ∧ _ ∧ _ ∧ _ ∧ _ ∧ Below Wy.heap.size Wy _›).2.2.2.2.2.2).mono ?_; rintro e W5 ⟨⟨v5, rfl, a5, c5, rfl, ho5⟩, hb5⟩; first | (refine with_blk B8.out hb5 r1 ?_; rintro ⟨c80, c81, f80, f81, c81', f81'⟩) | skip))
  -- TAIL
  · have F0 := nxt ((Below.refl Wy.heap.size Wy).drew.drew) hb5
    have F1 : Below Wy.heap.size Wy (W5.alloc (.cells #[.int .i64 r1, .slice a5 r2.length c5] 45)) := F0.alloc F0.size _
    have F2 := BlkC.new W5 r1 (.slice a5 r2.length c5)
    have F3 : OwnL (W5.alloc (.cells #[.int .i64 r1, .slice a5 r2.length c5] 45)) base (.slice a5 r2.length c5) r2 := (ho5.below ((Below.refl _ _).alloc (Nat.le_refl _) _)).lower (by show base ≤ Wy.heap.size; omega)
    generalize W5.alloc (.cells #[.int .i64 r1, .slice a5 r2.length c5] 45) = W6 at F1 F2 F3 ⊢
    have hG6 := hy.below F1
    obtain ⟨z0, z1, z2, z3, z4⟩ := hG6.cells
    obtain ⟨kz0, kz1⟩ := blk2 ((F1.block w.heap.size (by omega)).trans bky)
    obtain ⟨q0, q1, -, -⟩ := F2.cells
    have hw6 := nxt hwy F1
    by_cases hre : re = 0
    · subst hre
      obtain ⟨D6, hom6, hmc6⟩ := hG6.mo
      obtain ⟨W7, u1, hom7, u2⟩ := (hom6.drew).update law Tryz.underlying94 (by unfold maxLen; omega) (key_mk hk) (show RC (cellV r1 (a5, r2.length, c5)) = some (.held (cellV r1 (a5, r2.length, c5)), []) from rfl)
      have u2' : W6.grownBy W7 (some mp) := ⟨u2.os, u2.tape, u2.output, u2.size, u2.block⟩
      obtain ⟨hG7, hne⟩ := hG6.put (st' := (putR (joinC agg bound.toNat) (ka, kb) (c1, c2) st).1) (c := (r1, r2)) (s := (a5, r2.length, c5)) hom6 hmc6 hom7 u2' hk F3 (len_putR hr) (fun y => by rw [look_putR hr, hlook, both, HJ.out]; rfl)
      have hmlt : mp < w.heap.size := hom.lt
      have hglt : gp < w.heap.size := (Array.getElem?_eq_some_iff.1 h.gb).1
      have hb7 : Below base w W7 := (hw6.mono hb).grown u2' (by have := hw6.size; omega) (fun k hk => by injection hk with hk; subst hk; exact h.hm)
      have hF2 := F2.lt
      have hs6 := F1.size
      have hs5 := F0.size
      have Y7 := hidM (show W7.cell? ⟨gp, 2, none⟩ = some (.map (some mp)) ∧ W7.cell? ⟨w.heap.size, 0, none⟩ = some (.int .i64 ka) ∧ W7.cell? ⟨w.heap.size, 1, none⟩ = some (.string kb) ∧ W7.cell? ⟨W5.heap.size, 0, none⟩ = some (.int .i64 r1) ∧ W7.cell? ⟨W5.heap.size, 1, none⟩ = some (.slice a5 r2.length c5) from
        have far : ∀ b o : Nat, b < W6.heap.size → b ≠ mp → W7.cell? ⟨b, o, none⟩ = W6.cell? ⟨b, o, none⟩ := fun b o hlt hn => u2'.cell_far ⟨b, o, none⟩ hlt (fun e => hn (by injection e))
        ⟨(far _ _ (by omega) hne).trans z2, (far _ _ (by omega) (by omega)).trans kz0, (far _ _ (by omega) (by omega)).trans kz1, (far _ _ (by omega) (by omega)).trans q0, (far _ _ (by omega) (by omega)).trans q1⟩)
      have FIN := hidM (And.intro hG7 hb7)
      clear hG7 hb7 u2 u2' hom7 hom6 hmc6 hG6 F3 hw6 hmlt
      go_wp2_with fail
      go_region_held3 (fun W' => W'.cell? ⟨gp, 2, none⟩ = some (.map (some mp)) ∧ W'.cell? ⟨w.heap.size, 0, none⟩ = some (.int .i64 ka) ∧ W'.cell? ⟨w.heap.size, 1, none⟩ = some (.string kb) ∧ W'.cell? ⟨W5.heap.size, 0, none⟩ = some (.int .i64 r1) ∧ W'.cell? ⟨W5.heap.size, 1, none⟩ = some (.slice a5 r2.length c5))
        (first | exact ⟨z2, kz0, kz1, q0, q1⟩ | exact Y7.out)
        (fail)
      all_goals
        go_wp2
        go_end0
        exact ⟨rfl, FIN.out⟩
    · have hre' : ¬ re = 0 := hre
      have hbt : (re != 0) = true := by simp [hre]
      have hput := putR_same (J := joinC agg bound.toNat) (c := (c1, c2)) hr hlook (by rw [HJ.out]; exact hre)
      have FIN := hidM (show Gat (W6.setCell ⟨gp, 3, none⟩ (.int .i64 re)) base gp mp agg bound (putR (joinC agg bound.toNat) (ka, kb) (c1, c2) st).1 re (n + 1) ∧ Below base w (W6.setCell ⟨gp, 3, none⟩ (.int .i64 re)) from
        ⟨by rw [hput]; exact (hG6.setBad re).mono (by omega), (hw6.mono hb).setCell (p := ⟨gp, 3, none⟩) h.hg _⟩)
      clear hG6 F3 hw6 hput
      go_wp2
      refine bodyPost_ret (results_none rfl _ _ _) rfl ?_
      first | exact ⟨rfl, FIN.out⟩ | (rw [if_neg hre]; exact ⟨rfl, FIN.out⟩)
  · have F0 : Below Wy.heap.size Wy W5 := nxt (((Below.refl Wy.heap.size Wy).alloc (Nat.le_refl _) (.cells #[.int .i64 0, .slice none 0 0] 45)).drew.drew) hb5
    have F1 : Below Wy.heap.size Wy ((W5.setCell ⟨w.heap.size + 3, 0, none⟩ (.int .i64 r1)).setCell ⟨w.heap.size + 3, 1, none⟩ (.slice a5 r2.length c5)) := below_set F0 (by omega) _ _
    have F2 := (B8.out.below hb5).set (m := r1) (u := .slice a5 r2.length c5)
    have F3 : OwnL ((W5.setCell ⟨w.heap.size + 3, 0, none⟩ (.int .i64 r1)).setCell ⟨w.heap.size + 3, 1, none⟩ (.slice a5 r2.length c5)) base (.slice a5 r2.length c5) r2 := (own_set ho5 (by simp; omega) _ _).lower (by simp; omega)
    generalize (W5.setCell ⟨w.heap.size + 3, 0, none⟩ (.int .i64 r1)).setCell ⟨w.heap.size + 3, 1, none⟩ (.slice a5 r2.length c5) = W6 at F1 F2 F3 ⊢
    have hG6 := hy.below F1
    obtain ⟨z0, z1, z2, z3, z4⟩ := hG6.cells
    obtain ⟨kz0, kz1⟩ := blk2 ((F1.block w.heap.size (by omega)).trans bky)
    obtain ⟨q0, q1, -, -⟩ := F2.cells
    have hw6 := nxt hwy F1
    by_cases hre : re = 0
    · subst hre
      obtain ⟨D6, hom6, hmc6⟩ := hG6.mo
      obtain ⟨W7, u1, hom7, u2⟩ := (hom6.drew).update law Tryz.underlying94 (by unfold maxLen; omega) (key_mk hk) (show RC (cellV r1 (a5, r2.length, c5)) = some (.held (cellV r1 (a5, r2.length, c5)), []) from rfl)
      have u2' : W6.grownBy W7 (some mp) := ⟨u2.os, u2.tape, u2.output, u2.size, u2.block⟩
      obtain ⟨hG7, hne⟩ := hG6.put (st' := (putR (joinC agg bound.toNat) (ka, kb) (c1, c2) st).1) (c := (r1, r2)) (s := (a5, r2.length, c5)) hom6 hmc6 hom7 u2' hk F3 (len_putR hr) (fun y => by rw [look_putR hr, hlook, both, HJ.out]; rfl)
      have hmlt : mp < w.heap.size := hom.lt
      have hglt : gp < w.heap.size := (Array.getElem?_eq_some_iff.1 h.gb).1
      have hb7 : Below base w W7 := (hw6.mono hb).grown u2' (by have := hw6.size; omega) (fun k hk => by injection hk with hk; subst hk; exact h.hm)
      have hF2 := F2.lt
      have hs6 := F1.size
      have hs5 := F0.size
      have Y7 := hidM (show W7.cell? ⟨gp, 2, none⟩ = some (.map (some mp)) ∧ W7.cell? ⟨w.heap.size, 0, none⟩ = some (.int .i64 ka) ∧ W7.cell? ⟨w.heap.size, 1, none⟩ = some (.string kb) ∧ W7.cell? ⟨w.heap.size + 3, 0, none⟩ = some (.int .i64 r1) ∧ W7.cell? ⟨w.heap.size + 3, 1, none⟩ = some (.slice a5 r2.length c5) from
        have far : ∀ b o : Nat, b < W6.heap.size → b ≠ mp → W7.cell? ⟨b, o, none⟩ = W6.cell? ⟨b, o, none⟩ := fun b o hlt hn => u2'.cell_far ⟨b, o, none⟩ hlt (fun e => hn (by injection e))
        ⟨(far _ _ (by omega) hne).trans z2, (far _ _ (by omega) (by omega)).trans kz0, (far _ _ (by omega) (by omega)).trans kz1, (far _ _ (by omega) (by omega)).trans q0, (far _ _ (by omega) (by omega)).trans q1⟩)
      have FIN := hidM (And.intro hG7 hb7)
      clear hG7 hb7 u2 u2' hom7 hom6 hmc6 hG6 F3 hw6 hmlt
      go_wp2_with fail
      go_region_held3 (fun W' => W'.cell? ⟨gp, 2, none⟩ = some (.map (some mp)) ∧ W'.cell? ⟨w.heap.size, 0, none⟩ = some (.int .i64 ka) ∧ W'.cell? ⟨w.heap.size, 1, none⟩ = some (.string kb) ∧ W'.cell? ⟨w.heap.size + 3, 0, none⟩ = some (.int .i64 r1) ∧ W'.cell? ⟨w.heap.size + 3, 1, none⟩ = some (.slice a5 r2.length c5))
        (first | exact ⟨z2, kz0, kz1, q0, q1⟩ | exact Y7.out)
        (fail)
      all_goals
        go_wp2
        go_end0
        exact ⟨rfl, FIN.out⟩
    · have hre' : ¬ re = 0 := hre
      have hbt : (re != 0) = true := by simp [hre]
      have hput := putR_same (J := joinC agg bound.toNat) (c := (c1, c2)) hr hlook (by rw [HJ.out]; exact hre)
      have FIN := hidM (show Gat (W6.setCell ⟨gp, 3, none⟩ (.int .i64 re)) base gp mp agg bound (putR (joinC agg bound.toNat) (ka, kb) (c1, c2) st).1 re (n + 1) ∧ Below base w (W6.setCell ⟨gp, 3, none⟩ (.int .i64 re)) from
        ⟨by rw [hput]; exact (hG6.setBad re).mono (by omega), (hw6.mono hb).setCell (p := ⟨gp, 3, none⟩) h.hg _⟩)
      clear hG6 F3 hw6 hput
      go_wp2
      refine bodyPost_ret (results_none rfl _ _ _) rfl ?_
      first | exact ⟨rfl, FIN.out⟩ | (rw [if_neg hre]; exact ⟨rfl, FIN.out⟩)
  · have F0 := nxt ((Below.refl Wy.heap.size Wy).drew.drew) hb5
    have F1 : Below Wy.heap.size Wy (W5.alloc (.cells #[.int .i64 r1, .slice a5 r2.length c5] 45)) := F0.alloc F0.size _
    have F2 := BlkC.new W5 r1 (.slice a5 r2.length c5)
    have F3 : OwnL (W5.alloc (.cells #[.int .i64 r1, .slice a5 r2.length c5] 45)) base (.slice a5 r2.length c5) r2 := (ho5.below ((Below.refl _ _).alloc (Nat.le_refl _) _)).lower (by show base ≤ Wy.heap.size; omega)
    generalize W5.alloc (.cells #[.int .i64 r1, .slice a5 r2.length c5] 45) = W6 at F1 F2 F3 ⊢
    have hG6 := hy.below F1
    obtain ⟨z0, z1, z2, z3, z4⟩ := hG6.cells
    obtain ⟨kz0, kz1⟩ := blk2 ((F1.block w.heap.size (by omega)).trans bky)
    obtain ⟨q0, q1, -, -⟩ := F2.cells
    have hw6 := nxt hwy F1
    by_cases hre : re = 0
    · subst hre
      obtain ⟨D6, hom6, hmc6⟩ := hG6.mo
      obtain ⟨W7, u1, hom7, u2⟩ := (hom6.drew).update law Tryz.underlying94 (by unfold maxLen; omega) (key_mk hk) (show RC (cellV r1 (a5, r2.length, c5)) = some (.held (cellV r1 (a5, r2.length, c5)), []) from rfl)
      have u2' : W6.grownBy W7 (some mp) := ⟨u2.os, u2.tape, u2.output, u2.size, u2.block⟩
      obtain ⟨hG7, hne⟩ := hG6.put (st' := (putR (joinC agg bound.toNat) (ka, kb) (c1, c2) st).1) (c := (r1, r2)) (s := (a5, r2.length, c5)) hom6 hmc6 hom7 u2' hk F3 (len_putR hr) (fun y => by rw [look_putR hr, hlook, both, HJ.out]; rfl)
      have hmlt : mp < w.heap.size := hom.lt
      have hglt : gp < w.heap.size := (Array.getElem?_eq_some_iff.1 h.gb).1
      have hb7 : Below base w W7 := (hw6.mono hb).grown u2' (by have := hw6.size; omega) (fun k hk => by injection hk with hk; subst hk; exact h.hm)
      have hF2 := F2.lt
      have hs6 := F1.size
      have hs5 := F0.size
      have Y7 := hidM (show W7.cell? ⟨gp, 2, none⟩ = some (.map (some mp)) ∧ W7.cell? ⟨w.heap.size, 0, none⟩ = some (.int .i64 ka) ∧ W7.cell? ⟨w.heap.size, 1, none⟩ = some (.string kb) ∧ W7.cell? ⟨W5.heap.size, 0, none⟩ = some (.int .i64 r1) ∧ W7.cell? ⟨W5.heap.size, 1, none⟩ = some (.slice a5 r2.length c5) from
        have far : ∀ b o : Nat, b < W6.heap.size → b ≠ mp → W7.cell? ⟨b, o, none⟩ = W6.cell? ⟨b, o, none⟩ := fun b o hlt hn => u2'.cell_far ⟨b, o, none⟩ hlt (fun e => hn (by injection e))
        ⟨(far _ _ (by omega) hne).trans z2, (far _ _ (by omega) (by omega)).trans kz0, (far _ _ (by omega) (by omega)).trans kz1, (far _ _ (by omega) (by omega)).trans q0, (far _ _ (by omega) (by omega)).trans q1⟩)
      have FIN := hidM (And.intro hG7 hb7)
      clear hG7 hb7 u2 u2' hom7 hom6 hmc6 hG6 F3 hw6 hmlt
      go_wp2_with fail
      go_region_held3 (fun W' => W'.cell? ⟨gp, 2, none⟩ = some (.map (some mp)) ∧ W'.cell? ⟨w.heap.size, 0, none⟩ = some (.int .i64 ka) ∧ W'.cell? ⟨w.heap.size, 1, none⟩ = some (.string kb) ∧ W'.cell? ⟨W5.heap.size, 0, none⟩ = some (.int .i64 r1) ∧ W'.cell? ⟨W5.heap.size, 1, none⟩ = some (.slice a5 r2.length c5))
        (first | exact ⟨z2, kz0, kz1, q0, q1⟩ | exact Y7.out)
        (fail)
      all_goals
        go_wp2
        go_end0
        exact ⟨rfl, FIN.out⟩
    · have hre' : ¬ re = 0 := hre
      have hbt : (re != 0) = true := by simp [hre]
      have hput := putR_same (J := joinC agg bound.toNat) (c := (c1, c2)) hr hlook (by rw [HJ.out]; exact hre)
      have FIN := hidM (show Gat (W6.setCell ⟨gp, 3, none⟩ (.int .i64 re)) base gp mp agg bound (putR (joinC agg bound.toNat) (ka, kb) (c1, c2) st).1 re (n + 1) ∧ Below base w (W6.setCell ⟨gp, 3, none⟩ (.int .i64 re)) from
        ⟨by rw [hput]; exact (hG6.setBad re).mono (by omega), (hw6.mono hb).setCell (p := ⟨gp, 3, none⟩) h.hg _⟩)
      clear hG6 F3 hw6 hput
      go_wp2
      refine bodyPost_ret (results_none rfl _ _ _) rfl ?_
      first | exact ⟨rfl, FIN.out⟩ | (rw [if_neg hre]; exact ⟨rfl, FIN.out⟩)
  · have F0 : Below Wy.heap.size Wy W5 := nxt (((Below.refl Wy.heap.size Wy).alloc (Nat.le_refl _) (.cells #[.int .i64 0, .slice none 0 0] 45)).drew.drew) hb5
    have F1 : Below Wy.heap.size Wy ((W5.setCell ⟨w.heap.size + 3, 0, none⟩ (.int .i64 r1)).setCell ⟨w.heap.size + 3, 1, none⟩ (.slice a5 r2.length c5)) := below_set F0 (by omega) _ _
    have F2 := (B8.out.below hb5).set (m := r1) (u := .slice a5 r2.length c5)
    have F3 : OwnL ((W5.setCell ⟨w.heap.size + 3, 0, none⟩ (.int .i64 r1)).setCell ⟨w.heap.size + 3, 1, none⟩ (.slice a5 r2.length c5)) base (.slice a5 r2.length c5) r2 := (own_set ho5 (by simp; omega) _ _).lower (by simp; omega)
    generalize (W5.setCell ⟨w.heap.size + 3, 0, none⟩ (.int .i64 r1)).setCell ⟨w.heap.size + 3, 1, none⟩ (.slice a5 r2.length c5) = W6 at F1 F2 F3 ⊢
    have hG6 := hy.below F1
    obtain ⟨z0, z1, z2, z3, z4⟩ := hG6.cells
    obtain ⟨kz0, kz1⟩ := blk2 ((F1.block w.heap.size (by omega)).trans bky)
    obtain ⟨q0, q1, -, -⟩ := F2.cells
    have hw6 := nxt hwy F1
    by_cases hre : re = 0
    · subst hre
      obtain ⟨D6, hom6, hmc6⟩ := hG6.mo
      obtain ⟨W7, u1, hom7, u2⟩ := (hom6.drew).update law Tryz.underlying94 (by unfold maxLen; omega) (key_mk hk) (show RC (cellV r1 (a5, r2.length, c5)) = some (.held (cellV r1 (a5, r2.length, c5)), []) from rfl)
      have u2' : W6.grownBy W7 (some mp) := ⟨u2.os, u2.tape, u2.output, u2.size, u2.block⟩
      obtain ⟨hG7, hne⟩ := hG6.put (st' := (putR (joinC agg bound.toNat) (ka, kb) (c1, c2) st).1) (c := (r1, r2)) (s := (a5, r2.length, c5)) hom6 hmc6 hom7 u2' hk F3 (len_putR hr) (fun y => by rw [look_putR hr, hlook, both, HJ.out]; rfl)
      have hmlt : mp < w.heap.size := hom.lt
      have hglt : gp < w.heap.size := (Array.getElem?_eq_some_iff.1 h.gb).1
      have hb7 : Below base w W7 := (hw6.mono hb).grown u2' (by have := hw6.size; omega) (fun k hk => by injection hk with hk; subst hk; exact h.hm)
      have hF2 := F2.lt
      have hs6 := F1.size
      have hs5 := F0.size
      have Y7 := hidM (show W7.cell? ⟨gp, 2, none⟩ = some (.map (some mp)) ∧ W7.cell? ⟨w.heap.size, 0, none⟩ = some (.int .i64 ka) ∧ W7.cell? ⟨w.heap.size, 1, none⟩ = some (.string kb) ∧ W7.cell? ⟨w.heap.size + 3, 0, none⟩ = some (.int .i64 r1) ∧ W7.cell? ⟨w.heap.size + 3, 1, none⟩ = some (.slice a5 r2.length c5) from
        have far : ∀ b o : Nat, b < W6.heap.size → b ≠ mp → W7.cell? ⟨b, o, none⟩ = W6.cell? ⟨b, o, none⟩ := fun b o hlt hn => u2'.cell_far ⟨b, o, none⟩ hlt (fun e => hn (by injection e))
        ⟨(far _ _ (by omega) hne).trans z2, (far _ _ (by omega) (by omega)).trans kz0, (far _ _ (by omega) (by omega)).trans kz1, (far _ _ (by omega) (by omega)).trans q0, (far _ _ (by omega) (by omega)).trans q1⟩)
      have FIN := hidM (And.intro hG7 hb7)
      clear hG7 hb7 u2 u2' hom7 hom6 hmc6 hG6 F3 hw6 hmlt
      go_wp2_with fail
      go_region_held3 (fun W' => W'.cell? ⟨gp, 2, none⟩ = some (.map (some mp)) ∧ W'.cell? ⟨w.heap.size, 0, none⟩ = some (.int .i64 ka) ∧ W'.cell? ⟨w.heap.size, 1, none⟩ = some (.string kb) ∧ W'.cell? ⟨w.heap.size + 3, 0, none⟩ = some (.int .i64 r1) ∧ W'.cell? ⟨w.heap.size + 3, 1, none⟩ = some (.slice a5 r2.length c5))
        (first | exact ⟨z2, kz0, kz1, q0, q1⟩ | exact Y7.out)
        (fail)
      all_goals
        go_wp2
        go_end0
        exact ⟨rfl, FIN.out⟩
    · have hre' : ¬ re = 0 := hre
      have hbt : (re != 0) = true := by simp [hre]
      have hput := putR_same (J := joinC agg bound.toNat) (c := (c1, c2)) hr hlook (by rw [HJ.out]; exact hre)
      have FIN := hidM (show Gat (W6.setCell ⟨gp, 3, none⟩ (.int .i64 re)) base gp mp agg bound (putR (joinC agg bound.toNat) (ka, kb) (c1, c2) st).1 re (n + 1) ∧ Below base w (W6.setCell ⟨gp, 3, none⟩ (.int .i64 re)) from
        ⟨by rw [hput]; exact (hG6.setBad re).mono (by omega), (hw6.mono hb).setCell (p := ⟨gp, 3, none⟩) h.hg _⟩)
      clear hG6 F3 hw6 hput
      go_wp2
      refine bodyPost_ret (results_none rfl _ _ _) rfl ?_
      first | exact ⟨rfl, FIN.out⟩ | (rw [if_neg hre]; exact ⟨rfl, FIN.out⟩)
/-- One more is gathered. -/
theorem add_any (gp mp base n : Nat) (agg bound : Int) (S : List Rw × Int) (r : Rw) (v : Value) (w : World) (h : Gat w base gp mp agg bound S.1 S.2 n) (hb : base ≤ w.heap.size) (hn : n < 1000000)
    (hk : Good r.1) (hc : CS w v r.2) (hl : r.2.2.length ≤ 32) (hr : RiseK S.1) (hcc : chk agg bound r.2 = true) (wc : WfC r.2) (hall : ∀ x c, look S.1 x = some c → chk agg bound c = true ∧ WfC c ∧ c.2.length ≤ 32) :
    Calls Tryz.prog 47 #[.pointer (some ⟨gp, 0, none⟩), keyV r.1, v] w fun e w' =>
      e = .returned (.tuple #[]) ∧ Gat w' base gp mp agg bound (stepG (joinC agg bound.toNat) S r).1 (stepG (joinC agg bound.toNat) S r).2 (n + 1) ∧ Below base w w' := by
  obtain ⟨a, cap, rfl, hc⟩ := hc
  unfold stepG
  simp only
  rw [err_putR hr]
  cases hlook : look S.1 r.1 with
  | none => exact add_new gp mp base n agg bound S.1 S.2 r.1 r.2 a cap w h hb hn hk hc hl hlook hr
  | some d =>
    obtain ⟨h1, h2, h3⟩ := hall _ _ hlook
    exact add_old gp mp base n agg bound S.1 S.2 r.1 r.2 d a cap w h hb hn hk hc hl hlook hr hcc h1 wc h2 h3
end Go.Proofs.YtejgcflcckjlpaaGreatDoor
