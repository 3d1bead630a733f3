/- How words are read: op. -/
import Derived.Test.YtaaijlkjbmpegaaDoorLRead
namespace Go.Proofs.YtaaijlkjbmpegaaDoor
open Go.RowKit Go.Shelf
set_option linter.unusedVariables false
set_option maxRecDepth 100000

theorem BlkO.set {W : World} {b b' q : Nat} {k n : Int} {v : Value} (h : BlkO W b k n v) (hne : b ≠ b') (u : Value) : BlkO (W.setCell ⟨b', q, none⟩ u) b k n v := by
  unfold BlkO
  rw [Below.heap_setCell _ _ _ _ hne]
  exact h
theorem BlkO.grown {W W' : World} {b R : Nat} {k n : Int} {v : Value} (h : BlkO W b k n v) (hg : W.grownBy W' (some R)) (hne : b ≠ R) : BlkO W' b k n v := by
  unfold BlkO
  rw [hg.block b h.lt (fun e => hne (by injection e))]
  exact h
theorem BlkO.put' {W : World} {b b' : Nat} {k n : Int} {v u0 u1 u2 : Value} (h : BlkO W b k n v) (hne : b ≠ b') : BlkO (((W.setCell ⟨b', 0, none⟩ u0).setCell ⟨b', 1, none⟩ u1).setCell ⟨b', 2, none⟩ u2) b k n v := ((h.set hne _).set hne _).set hne _
theorem gput {w w1 : World} {r : Option Nat} (h : w.grownBy w1 r) {b : Nat} (hb : w.heap.size ≤ b) (u0 u1 u2 : Value) : w.grownBy (((w1.setCell ⟨b, 0, none⟩ u0).setCell ⟨b, 1, none⟩ u1).setCell ⟨b, 2, none⟩ u2) r := gset (gset (gset h hb _) hb _) hb _
theorem RB.put {w : World} {R G m b : Nat} {ws : List (List UInt8)} (h : RB w R G ws m) (hR : b ≠ R) (hG : b ≠ G) (u0 u1 u2 : Value) : RB (((w.setCell ⟨b, 0, none⟩ u0).setCell ⟨b, 1, none⟩ u1).setCell ⟨b, 2, none⟩ u2) R G ws m := ((h.set hR hG _).set hR hG _).set hR hG _

set_option maxHeartbeats 800000 in
/-- op, where no block follows, or it cannot be. -/
theorem op_any (N : Nat) (IH : ListC N) (x : List UInt8) (ws : List (List UInt8)) (d m R G : Nat) (w : World) (hN : ws.length ≤ N) (hd : d ≤ 6) (hm : m ≤ 128) (hW : WW (x :: ws)) (hs : ¬ (x = shutW ∧ 0 < d))
    (hr : RB w R G ws m) (hE : Env w) (hR : 7 ≤ R) :
    Calls Tryd.prog 34 #[.pointer (some ⟨R, 0, none⟩), .string (ba x), .int .i64 d] w fun e w' => ∃ res, OPP d x ws m res ∧ w.grownBy w' (some R) ∧ ORes R G w w' e res := by
  have hx := hW.2 x (by simp)
  have hb0 : Below w.heap.size w (w.alloc (.cells #[.int .i64 0, .int .i64 0, .slice none 0 0] 60)) := (Below.refl _ _).alloc (Nat.le_refl _) _
  have Hc := hidR (opOf_any (ba x) (w.alloc (.cells #[.int .i64 0, .int .i64 0, .slice none 0 0] 60)) (by show (ba x).size ≤ 512; rw [← L_len, L_ba]; exact hx.2) (by rw [L_ba]; exact hx.1) (hE.low hb0))
  rw [L_ba] at Hc
  have hRl := hr.lt
  have hGl := hr.2.1
  have HR := hidR hr
  have HE := hidR hE
  have HWW := hidR hW
  have HH := hidR IH
  clear hr hE hW IH hx
  cases ho : opW x with
  | none =>
    have HP := hidR (PL.bad hs ho ws m)
    rw [ho] at Hc
    clear ho hs
    go_enter Tryd.func34, Tryd.ntmps34
    go_wp2_with fail
    refine Hc.out.mono ?_
    rintro e w1 ⟨he, hb1⟩
    obtain rfl := he
    have h6 := ((BlkO.new w 0 0 (.slice none 0 0)).step hb1).step ((Below.refl w1.heap.size w1).alloc (Nat.le_refl _) (.cells #[.int .i64 0, .int .i64 0, .slice none 0 0] 60))
    have hg1 := galloc (gbel (galloc (World.grownBy.refl w (some R)) _) hb1) (.cells #[.int .i64 0, .int .i64 0, .slice none 0 0] 60)
    obtain ⟨c0, c1, c2⟩ := h6.cells
    obtain ⟨f0, f1, f2⟩ := h6.free
    have H6 := hidR h6
    have HG := hidR hg1
    clear h6 hg1 hb1
    go_wp2
    exact bodyPost_ret ((H6.out.put 0 0 (.slice none 0 0)).ret (t := 6) (u := 7) rfl rfl) rfl ⟨.err 7, ⟨HP.out, by decide⟩, gput HG.out (Nat.le_refl _) _ _ _, rfl⟩
  | some kn =>
    obtain ⟨k, n⟩ := kn
    rw [ho] at Hc
    have HX := hidR ho
    clear ho hs
    by_cases hm8 : m = 128
    · subst hm8
      have HP := hidR (PL.full HX.out d ws)
      go_enter Tryd.func34, Tryd.ntmps34
      go_wp2_with fail
      refine Hc.out.mono ?_
      rintro e w1 ⟨he, hb1⟩
      obtain rfl := he
      have h6 := ((BlkO.new w 0 0 (.slice none 0 0)).step hb1).step ((Below.refl w1.heap.size w1).alloc (Nat.le_refl _) (.cells #[.int .i64 k, .int .i64 n, .slice none 0 0] 60))
      have hg1 := galloc (gbel (galloc (World.grownBy.refl w (some R)) _) hb1) (.cells #[.int .i64 k, .int .i64 n, .slice none 0 0] 60)
      have hr1 := ((HR.out.below hb0).below hb1).below ((Below.refl w1.heap.size w1).alloc (Nat.le_refl _) (.cells #[.int .i64 k, .int .i64 n, .slice none 0 0] 60))
      obtain ⟨c0, c1, c2⟩ := h6.cells
      obtain ⟨f0, f1, f2⟩ := h6.free
      obtain ⟨r1, r2⟩ := hr1.cell1
      have H6 := hidR h6
      have HG := hidR hg1
      clear h6 hg1 hb1 hr1
      go_wp2
      exact bodyPost_ret ((H6.out.put 0 0 (.slice none 0 0)).ret (t := 6) (u := 7) rfl rfl) rfl ⟨.err 2, ⟨HP.out, by decide⟩, gput HG.out (Nat.le_refl _) _ _ _, rfl⟩
    · have hmi : ((m : Int) == 128) = false := beq_eq_false_iff_ne.2 (by omega)
      have hm0 : (0 : Int) ≤ m := by omega
      have hm1 : (m : Int) < 128 := by omega
      cases hk : hasB k with
      | false =>
        have Hh := hidR (fun W => hasB_any k W)
        rw [hk] at Hh
        have HP := hidR (fun r (h : PL d ws (m + 1) r) => PL.one HX.out hk (m := m) hm8 h)
        clear hk
        go_enter Tryd.func34, Tryd.ntmps34
        go_wp2_with fail
        refine Hc.out.mono ?_
        rintro e w1 ⟨he, hb1⟩
        obtain rfl := he
        have h6 := ((BlkO.new w 0 0 (.slice none 0 0)).step hb1).step ((Below.refl w1.heap.size w1).alloc (Nat.le_refl _) (.cells #[.int .i64 k, .int .i64 n, .slice none 0 0] 60))
        have h8 := BlkO.new w1 k n (.slice none 0 0)
        have hg1 := galloc (gbel (galloc (World.grownBy.refl w (some R)) _) hb1) (.cells #[.int .i64 k, .int .i64 n, .slice none 0 0] 60)
        have hr1 := ((HR.out.below hb0).below hb1).below ((Below.refl w1.heap.size w1).alloc (Nat.le_refl _) (.cells #[.int .i64 k, .int .i64 n, .slice none 0 0] 60))
        have hs1 : w.heap.size + 1 ≤ w1.heap.size := by have := hb1.size; simpa using this
        obtain ⟨r1, r2⟩ := hr1.cell1
        have H6 := hidR (h6.set (b' := R) (q := 1) (by omega) (.int .i64 ((m + 1 : Nat) : Int)))
        have H8 := hidR (h8.set (b' := R) (q := 1) (by omega) (.int .i64 ((m + 1 : Nat) : Int)))
        have HG := hidR (gsetR (q := 1) hg1 (.int .i64 ((m + 1 : Nat) : Int)))
        have HR1 := hidR (rb_many hr1 (m + 1))
        rw [show ((m + 1 : Nat) : Int) = (m : Int) + 1 by omega] at H6 H8 HG HR1
        obtain ⟨c0, c1, c2⟩ := H6.out.cells
        obtain ⟨f0, f1, f2⟩ := H6.out.free
        obtain ⟨d0, d1, d2⟩ := H8.out.cells
        clear h6 h8 hg1 hb1 hr1
        go_wp2_with (go_at_call 40; refine (Hh.out _).mono ?_; rintro e w' ⟨rfl, rfl⟩)
        exact bodyPost_ret ((H6.out.put k n (.slice none 0 0)).ret (t := 6) (u := 7) rfl rfl) rfl ⟨.ok k n .nil ws (m + 1), ⟨HP.out, by omega, by omega, [], rfl⟩, gput HG.out (Nat.le_refl _) _ _ _, _, rfl, OwnF.nil _ _, HR1.out.put (by omega) (by omega) _ _ _⟩
      | true =>
        have Hh := hidR (fun W => hasB_any k W)
        rw [hk] at Hh
        have HK := hidR hk
        clear hk
        go_enter Tryd.func34, Tryd.ntmps34
        go_wp2_with fail
        refine Hc.out.mono ?_
        rintro e w1 ⟨he, hb1⟩
        obtain rfl := he
        have h6 := ((BlkO.new w 0 0 (.slice none 0 0)).step hb1).step ((Below.refl w1.heap.size w1).alloc (Nat.le_refl _) (.cells #[.int .i64 k, .int .i64 n, .slice none 0 0] 60))
        have h8 := BlkO.new w1 k n (.slice none 0 0)
        have hg1 := galloc (gbel (galloc (World.grownBy.refl w (some R)) _) hb1) (.cells #[.int .i64 k, .int .i64 n, .slice none 0 0] 60)
        have hr1 := ((HR.out.below hb0).below hb1).below ((Below.refl w1.heap.size w1).alloc (Nat.le_refl _) (.cells #[.int .i64 k, .int .i64 n, .slice none 0 0] 60))
        have hs1 : w.heap.size + 1 ≤ w1.heap.size := by have := hb1.size; simpa using this
        obtain ⟨r1, r2⟩ := hr1.cell1
        have H6 := hidR (h6.set (b' := R) (q := 1) (by omega) (.int .i64 ((m + 1 : Nat) : Int)))
        have H8 := hidR (h8.set (b' := R) (q := 1) (by omega) (.int .i64 ((m + 1 : Nat) : Int)))
        have HG := hidR (gsetR (q := 1) hg1 (.int .i64 ((m + 1 : Nat) : Int)))
        have HR1 := hidR (rb_many hr1 (m + 1))
        rw [show ((m + 1 : Nat) : Int) = (m : Int) + 1 by omega] at H6 H8 HG HR1
        obtain ⟨W3, hW3⟩ : ∃ W3, (w1.alloc (.cells #[.int .i64 k, .int .i64 n, .slice none 0 0] 60)).setCell ⟨R, 1, none⟩ (.int .i64 ((m : Int) + 1)) = W3 := ⟨_, rfl⟩
        have hs3 : W3.heap.size = w1.heap.size + 1 := by rw [← hW3]; simp [World.setCell]
        obtain ⟨c0, c1, c2⟩ := H6.out.cells
        obtain ⟨f0, f1, f2⟩ := H6.out.free
        obtain ⟨d0, d1, d2⟩ := H8.out.cells
        clear h6 h8 hg1 hb1 hr1
        have HW3 := hidR hW3
        clear hW3
        have hdm : (d : Int) ≤ 6 := by omega
        go_wp2_with (go_at_call 40; refine (Hh.out _).mono ?_; rintro e w' ⟨rfl, rfl⟩)
        rw [HW3.out] at H6 H8 HG HR1 ⊢
        have hE3 := HE.out.grown HG.out hR
        refine (block_any N HH.out x k n ws d m R G W3 hN hd (by omega) HWW.out.tail HX.out HK.out HR1.out hE3 hR).mono ?_
        rintro e w2 ⟨res, hop, hg2, hres⟩
        have h6 := H6.out.grown hg2 (by omega)
        have h8 := H8.out.grown hg2 (by omega)
        have hg3 := HG.out.trans hg2
        have hs2 := hg2.size
        clear c0 c1 c2 f0 f1 f2 d0 d1 d2 r1 r2
        cases res with
        | err c =>
          obtain rfl := hres
          have hc0 := hop.2
          have hci : (c == 0) = false := beq_eq_false_iff_ne.2 hc0
          have HP := hidR hop.1
          have H6' := hidR h6
          have HG3 := hidR hg3
          obtain ⟨c0, c1, c2⟩ := h6.cells
          obtain ⟨f0, f1, f2⟩ := h6.free
          clear hop h6 h8 hg3 hg2
          go_wp2
          exact bodyPost_ret ((H6'.out.put 0 0 (.slice none 0 0)).ret (t := 6) (u := 7) rfl rfl) rfl ⟨.err c, ⟨HP.out, hc0⟩, gput HG3.out (Nat.le_refl _) _ _ _, rfl⟩
        | ok k' n' b ws' m' =>
          obtain ⟨rfl, rfl, v, rfl, hown, hr2⟩ := hres
          obtain ⟨a, cap, rfl⟩ := hown.len
          have HP := hidR hop
          have H6' := hidR (h6.set (b' := w1.heap.size) (q := 2) (by omega) (.slice a b.len cap))
          have H8' := hidR (h8.put2 (.slice a b.len cap))
          have HG3 := hidR (gset (b := w1.heap.size) (q := 2) hg3 (by omega) (.slice a b.len cap))
          have HO := hidR hown
          have HR2 := hidR (hr2.set (b := w1.heap.size) (q := 2) (by omega) (by omega) (.slice a b.len cap))
          obtain ⟨c0, c1, c2⟩ := H6'.out.cells
          obtain ⟨f0, f1, f2⟩ := H6'.out.free
          obtain ⟨d0, d1, d2⟩ := H8'.out.cells
          obtain ⟨p0, p1, p2⟩ := h8.cells
          obtain ⟨q0, q1, q2⟩ := h8.free
          clear hop h6 h8 hg3 hg2 hown hr2
          go_wp2
          exact bodyPost_ret ((H6'.out.put k' n' (.slice a b.len cap)).ret (t := 6) (u := 7) rfl rfl) rfl ⟨.ok k' n' b ws' m', HP.out, gput HG3.out (Nat.le_refl _) _ _ _, _, rfl, (HO.out.keep (fun j hj hlt => by rw [Below.heap_setCell _ _ _ _ (by show j ≠ w.heap.size; omega), Below.heap_setCell _ _ _ _ (by show j ≠ w.heap.size; omega), Below.heap_setCell _ _ _ _ (by show j ≠ w.heap.size; omega), Below.heap_setCell _ _ _ _ (by show j ≠ w1.heap.size; omega)])).lower (by omega), HR2.out.put (by omega) (by omega) _ _ _⟩
end Go.Proofs.YtaaijlkjbmpegaaDoor
