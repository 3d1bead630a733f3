/- The page's own: may a configuration be. -/
import Derived.Test.YtdejdcibcihfeaaB25
import Derived.Test.YtdejdcibcihfeaaB26
namespace Go.Proofs.Ytdejdcibcihfeaa
open Go.RowKit
set_option linter.unusedVariables false
set_option maxRecDepth 100000

theorem spB_id {n : Int} {i : Int} {t : ByteArray} {l : List Int} (h : ¬ (1 ≤ i ∧ i ≤ 1048576)) : spB n (i, t, l) = false := by
  cases e : spB n (i, t, l) with
  | false => rfl
  | true => exact absurd (spB_of e).1 h
theorem spB_txt {n : Int} {i : Int} {t : ByteArray} {l : List Int} (h : ¬ (allOf t).2 = 0) : spB n (i, t, l) = false := by
  cases e : spB n (i, t, l) with
  | false => rfl
  | true => exact absurd (spB_of e).2.1 h
theorem spB_len {n : Int} {i : Int} {t : ByteArray} {l : List Int} (h : l.length = 0) : spB n (i, t, l) = false := by
  cases e : spB n (i, t, l) with
  | false => rfl
  | true => have := (spB_of e).2.2.1; simp only at this; omega
theorem spB_ris {n : Int} {i : Int} {t : ByteArray} {l : List Int} (h : risL 1 n l = false) : spB n (i, t, l) = false := by
  cases e : spB n (i, t, l) with
  | false => rfl
  | true => have := (spB_of e).2.2.2; simp only at this; rw [h] at this; cases this
theorem spB_mk {n : Int} {i : Int} {t : ByteArray} {l : List Int} (h1 : 1 ≤ i ∧ i ≤ 1048576) (h2 : (allOf t).2 = 0) (h3 : 0 < l.length) (h4 : risL 1 n l = true) : spB n (i, t, l) = true := by
  unfold spB
  simp only
  rw [decide_eq_true h1, decide_eq_true h2, decide_eq_true h3, h4]
  rfl
set_option maxHeartbeats 800000 in
theorem rconfig_any (c : Cfg) (v : Value) (w : World) (h : InC w c v) :
    Calls Try.prog 6 #[cfgV c v] w fun e w' => e = .returned (.bool (cfgB c)) ∧ Below w.heap.size w w' := by
  have HWF := hidM h.wf
  have hs1 := h.sites
  have ha1 := h.again
  have ho1 := h.over
  obtain ⟨va, vc, rfl, hsh⟩ := h.ps
  clear h
  by_cases h1 : 1 ≤ c.sites
  · have d0 : decide (c.sites < 1) = false := decide_eq_false (by omega)
    by_cases h2 : c.sites ≤ 3
    · have d1 : decide (3 < c.sites) = false := decide_eq_false (by omega)
      by_cases h3 : c.splits.length ≤ 6
      · have d2 : decide ((6 : Int) < (c.splits.length : Int)) = false := decide_eq_false (by omega)
        by_cases h4 : 1 ≤ c.again
        · have d3 : decide (c.again < 1) = false := decide_eq_false (by omega)
          by_cases h5 : c.again ≤ 16
          · have d4 : decide (16 < c.again) = false := decide_eq_false (by omega)
            by_cases h6 : 16 ≤ c.over
            · have d5 : decide (c.over < 16) = false := decide_eq_false (by omega)
              by_cases h7 : c.over ≤ 64
              · have d6 : decide (64 < c.over) = false := decide_eq_false (by omega)
                by_cases h8 : 2 * c.again ≤ c.over
                · have d7 : decide (c.over < 2 * c.again) = false := decide_eq_false (by omega)
                  have hhead := hidM (headB_mk (c := c) ⟨⟨h1, h2⟩, h3, ⟨h4, h5⟩, ⟨h6, h7⟩, h8⟩)
                  obtain ⟨W0, hW0⟩ : ∃ W0 : World, W0 = w.alloc (.cells #[.int .i64 c.sites, .slice va c.splits.length vc, .int .i64 c.again, .int .i64 c.over] 24) := ⟨_, rfl⟩
                  have hb0 : Below w.heap.size w W0 := by rw [hW0]; exact (Below.refl _ _).alloc (Nat.le_refl _) _
                  have B0 : BlkF W0 w.heap.size (.int .i64 c.sites) (.slice va c.splits.length vc) (.int .i64 c.again) (.int .i64 c.over) := by rw [hW0]; exact BlkF.new w _ _ _ _
                  have HW := hidM hW0.symm
                  have HB0 := hidM hb0
                  have HF0 := hidM B0
                  clear hW0 hb0 B0
                  go_enter Try.func6, Try.ntmps6
                  go_wp2
                  rw [HW.out]
                  clear d0 d1 d2 d3 d4 d5 d6 d7 h1 h2 h4 h5 h6 h7 h8
                  go_loopw [3] (fun i wr => ∃ k : Nat, k ≤ c.splits.length ∧ i = .int .i64 k ∧ Hid (CfgTo c k) ∧ Below W0.heap.size W0 wr) (fun i _ => c.splits.length - (intOf i).toNat)
                  case atStart => exact ⟨0, by omega, rfl, CfgTo.start c, Below.refl _ _⟩
                  case round =>
                    rename World => w0
                    obtain ⟨k, hk, rfl, HO, hbel⟩ := hrel
                    obtain ⟨r0, r1, r2, r3⟩ := (HF0.out.below hbel).cells
                    have hbw := nxt HB0.out hbel
                    by_cases hlt : k < c.splits.length
                    · obtain ⟨⟨si, st, sl⟩, hy⟩ := getSome hlt
                      have hwf := HWF.out _ (List.mem_of_getElem? hy)
                      have htx : st.size ≤ 140737488351232 := hwf.txt
                      have hsl : sl.length ≤ 17592186043904 := hwf.len
                      rcases hsh with hnil | ⟨b, off, rfl, hb, hat⟩
                      · rw [hnil] at hlt; simp at hlt
                      have hat0 := hat.below hbw hb
                      have hblt : b < w0.heap.size := Nat.lt_of_lt_of_le hb hbw.size
                      obtain ⟨c0, c1, sa, sc, c2, ns, hcap⟩ := hat0 k _ hy
                      simp only at c0 c1 c2 ns hcap
                      obtain ⟨cs, hcs⟩ : ∃ cs, cs = c.sites := ⟨_, rfl⟩
                      have HCS := hidM hcs.symm
                      have hki0 : (0 : Int) ≤ (k : Int) := by omega
                      have hki : (k : Int) < (c.splits.length : Int) := by omega
                      obtain ⟨Wa, hWa⟩ : ∃ Wa : World, Wa = w0.alloc (.cells #[.int .i64 si, .string st, .slice sa sl.length sc] 35) := ⟨_, rfl⟩
                      have hba : Below w0.heap.size w0 Wa := by rw [hWa]; exact (Below.refl _ _).alloc (Nat.le_refl _) _
                      have BP : BlkP Wa w0.heap.size (.int .i64 si) (.string st) (.slice sa sl.length sc) := by rw [hWa]; exact BlkP.new w0 _ _ _
                      obtain ⟨x0, x1, x2⟩ := BP.cells
                      have HA := hidM hWa.symm
                      have HAL := hidM (fun W => (rall_any st W (by unfold maxLen; omega)).mono (R' := fun e w' => (∃ v', e = .returned (.tuple #[v', .int .i64 (allOf st).2]) ∧ ∃ a n k, v' = .slice a n k) ∧ Below W.heap.size W w') (fun e w' ⟨v', q1, q2, q3⟩ => by
                        obtain ⟨a, k, e2⟩ := q2.shape
                        exact ⟨⟨v', q1, a, _, k, e2⟩, q3⟩))
                      have HRIS := hidM (fun (W : World) (hn : NS W (.slice sa sl.length sc) sl) => rising_any 1 c.sites _ sl W hn hsl)
                      rw [← hcs] at HRIS r0
                      have HB := hidM ((nxt HB0.out hbel).trans (hba.mono hbw.size) |> fun _ => nxt hbel hba)
                      by_cases hz : k = 0
                      · subst hz
                        have hd1 : decide ((0 : Int) < ((0 : Nat) : Int)) = false := by decide
                        simp only [Nat.zero_mul, Nat.add_zero] at c0 c1 c2
                        have HFA := hidM (show ∀ W1, Below Wa.heap.size Wa W1 → W1.cell? ⟨w0.heap.size, 0, none⟩ = some (.int .i64 si) ∧ W1.cell? ⟨w0.heap.size, 1, none⟩ = some (.string st) ∧ W1.cell? ⟨w0.heap.size, 2, none⟩ = some (.slice sa sl.length sc) ∧ W1.cell? ⟨w.heap.size, 0, none⟩ = some (.int .i64 cs) ∧ W1.cell? ⟨w.heap.size, 1, none⟩ = some (.slice (some ⟨b, off, none⟩) c.splits.length vc) ∧ NS W1 (.slice sa sl.length sc) sl ∧ True from fun W1 h1 => by
                          obtain ⟨y0, y1, y2⟩ := (BP.below h1).cells
                          obtain ⟨z0, z1, -⟩ := (HF0.out.below (nxt hbel (nxt hba h1))).cells
                          exact ⟨y0, y1, y2, by rw [hcs]; exact z0, z1, (ns.below hba).below h1, trivial⟩)
                        by_cases hid : 1 ≤ si ∧ si ≤ 1048576
                        · have HID := hidM (fun W => isID_any si W)
                          rw [decide_eq_true hid] at HID
                          by_cases he : (allOf st).2 = 0
                          · have hbe : ((allOf st).2 != 0) = false := by rw [he]; rfl
                            rw [he] at HAL
                            by_cases hs0 : sl.length = 0
                            · have HF := hidM (cfgB_bad (c := c) hy (spB_len hs0))
                              have hl0 : ((sl.length : Int) == 0) = true := by rw [hs0]; rfl
                              clear hs0
                              clear hcs hWa hba BP hat hat0 ns hcap hwf hbel hbw HO hy
                              go_wp2_with (first | (go_at_call 21; rw [HA.out]; refine (HAL.out _).mono ?_; rintro e W1 ⟨⟨v1, rfl, a1, n1, k1, rfl⟩, hb1⟩; obtain ⟨d0, d1, d2, f0, f1, nsS, -⟩ := HFA.out W1 hb1; have HRI := hidM (fun q => HRIS.out (W1.drewN q) (nsS.below (Drawn.below ⟨q, rfl⟩ _)))))
                              go_quiet (first
                                | (go_at_call 22; exact Calls.quiet_of_same (HID.out _))
                                | (go_at_call 23; exact Calls.quiet_of (HRI.out _)))
                              go_wp2
                              go_ret
                              exact ⟨by rw [HF.out]; rfl, (nxt HB0.out (nxt HB.out hb1)).trans (Drawn.below ⟨_, rfl⟩ _)⟩
                            · have hl0 : ((sl.length : Int) == 0) = false := beq_eq_false_iff_ne.2 (by omega)
                              cases hr : risL 1 cs sl with
                              | false =>
                                have HF := hidM (cfgB_bad (c := c) hy (spB_ris (by rw [HCS.out]; exact hr)))
                                rw [hr] at HRIS
                                clear hcs hWa hba BP hat hat0 ns hcap hwf hbel hbw HO hy
                                go_wp2_with (first | (go_at_call 21; rw [HA.out]; refine (HAL.out _).mono ?_; rintro e W1 ⟨⟨v1, rfl, a1, n1, k1, rfl⟩, hb1⟩; obtain ⟨d0, d1, d2, f0, f1, nsS, -⟩ := HFA.out W1 hb1; have HRI := hidM (fun q => HRIS.out (W1.drewN q) (nsS.below (Drawn.below ⟨q, rfl⟩ _)))))
                                go_quiet (first
                                  | (go_at_call 22; exact Calls.quiet_of_same (HID.out _))
                                  | (go_at_call 23; exact Calls.quiet_of (HRI.out _)))
                                go_wp2
                                go_ret
                                exact ⟨by rw [HF.out]; rfl, (nxt HB0.out (nxt HB.out hb1)).trans (Drawn.below ⟨_, rfl⟩ _)⟩
                              | true =>
                                have HO2 := hidM (HO.out.step hy (spB_mk hid he (by omega) (by rw [HCS.out]; exact hr)) (fun m y hm => by omega))
                                rw [hr] at HRIS
                                clear hcs hWa hba BP hat hat0 ns hcap hwf hbel hbw HO hy
                                go_wp2_with (first | (go_at_call 21; rw [HA.out]; refine (HAL.out _).mono ?_; rintro e W1 ⟨⟨v1, rfl, a1, n1, k1, rfl⟩, hb1⟩; obtain ⟨d0, d1, d2, f0, f1, nsS, -⟩ := HFA.out W1 hb1; have HRI := hidM (fun q => HRIS.out (W1.drewN q) (nsS.below (Drawn.below ⟨q, rfl⟩ _)))))
                                go_quiet (first
                                  | (go_at_call 22; exact Calls.quiet_of_same (HID.out _))
                                  | (go_at_call 23; exact Calls.quiet_of (HRI.out _)))
                                go_wp2
                                go_roundw
                                case rel => exact ⟨1, by omega, by go_num, HO2.out, (nxt HB.out hb1).trans (Drawn.below ⟨_, rfl⟩ _)⟩
                                case measure => simp [intOf]; omega
                          · have hbe : ((allOf st).2 != 0) = true := by simpa using he
                            have HF := hidM (cfgB_bad (c := c) hy (spB_txt he))
                            generalize (allOf st).2 = er at HAL hbe he
                            clear hcs hWa hba BP hat hat0 ns hcap hwf hbel hbw HO hy
                            go_wp2_with (first | (go_at_call 21; rw [HA.out]; refine (HAL.out _).mono ?_; rintro e W1 ⟨⟨v1, rfl, a1, n1, k1, rfl⟩, hb1⟩; obtain ⟨d0, d1, d2, f0, f1, nsS, -⟩ := HFA.out W1 hb1; have HRI := hidM (fun q => HRIS.out (W1.drewN q) (nsS.below (Drawn.below ⟨q, rfl⟩ _)))))
                            go_quiet (first
                              | (go_at_call 22; exact Calls.quiet_of_same (HID.out _))
                              | (go_at_call 23; exact Calls.quiet_of (HRI.out _)))
                            go_wp2
                            go_ret
                            exact ⟨by rw [HF.out]; rfl, (nxt HB0.out (nxt HB.out hb1)).trans (Drawn.below ⟨_, rfl⟩ _)⟩
                        · have HID := hidM (fun W => isID_any si W)
                          rw [decide_eq_false hid] at HID
                          have HF := hidM (cfgB_bad (c := c) hy (spB_id hid))
                          generalize (allOf st).2 = er at HAL
                          clear hcs hWa hba BP hat hat0 ns hcap hwf hbel hbw HO hy
                          go_wp2_with (first | (go_at_call 21; rw [HA.out]; refine (HAL.out _).mono ?_; rintro e W1 ⟨⟨v1, rfl, a1, n1, k1, rfl⟩, hb1⟩; obtain ⟨d0, d1, d2, f0, f1, nsS, -⟩ := HFA.out W1 hb1; have HRI := hidM (fun q => HRIS.out (W1.drewN q) (nsS.below (Drawn.below ⟨q, rfl⟩ _)))))
                          go_quiet (first
                            | (go_at_call 22; exact Calls.quiet_of_same (HID.out _))
                            | (go_at_call 23; exact Calls.quiet_of (HRI.out _)))
                          go_wp2
                          go_ret
                          exact ⟨by rw [HF.out]; rfl, (nxt HB0.out (nxt HB.out hb1)).trans (Drawn.below ⟨_, rfl⟩ _)⟩
                      · obtain ⟨m, hm⟩ : ∃ m, k = m + 1 := ⟨k - 1, by omega⟩
                        obtain ⟨⟨pi, pt, pl⟩, hx⟩ := getSome (l := c.splits) (i := m) (by omega)
                        obtain ⟨p0, -⟩ := hat0 m _ hx
                        simp only at p0
                        have hwr : IntKind.i64.wrap ((k : Int) - 1) = (m : Int) := by rw [IntKind.wrap_i64]; omega
                        have hm0 : (0 : Int) ≤ (m : Int) := by omega
                        have hmi : (m : Int) < (c.splits.length : Int) := by omega
                        have hd1 : decide ((0 : Int) < (k : Int)) = true := decide_eq_true (by omega)
                        have hd2 : decide (0 < k) = true := decide_eq_true (by omega)
                        have HFA := hidM (show ∀ W1, Below Wa.heap.size Wa W1 → W1.cell? ⟨w0.heap.size, 0, none⟩ = some (.int .i64 si) ∧ W1.cell? ⟨w0.heap.size, 1, none⟩ = some (.string st) ∧ W1.cell? ⟨w0.heap.size, 2, none⟩ = some (.slice sa sl.length sc) ∧ W1.cell? ⟨w.heap.size, 0, none⟩ = some (.int .i64 cs) ∧ W1.cell? ⟨w.heap.size, 1, none⟩ = some (.slice (some ⟨b, off, none⟩) c.splits.length vc) ∧ NS W1 (.slice sa sl.length sc) sl ∧ W1.cell? ⟨b, off + m * 3, none⟩ = some (.int .i64 pi) from fun W1 h1 => by
                          obtain ⟨y0, y1, y2⟩ := (BP.below h1).cells
                          obtain ⟨z0, z1, -⟩ := (HF0.out.below (nxt hbel (nxt hba h1))).cells
                          exact ⟨y0, y1, y2, by rw [hcs]; exact z0, z1, (ns.below hba).below h1, ((nxt hba h1).cell (p := ⟨b, _, none⟩) hblt).trans p0⟩)
                        by_cases hid : 1 ≤ si ∧ si ≤ 1048576
                        · have HID := hidM (fun W => isID_any si W)
                          rw [decide_eq_true hid] at HID
                          by_cases hlt3 : pi < si
                          · have d3 : decide (si ≤ pi) = false := decide_eq_false (by omega)
                            by_cases he : (allOf st).2 = 0
                            · have hbe : ((allOf st).2 != 0) = false := by rw [he]; rfl
                              rw [he] at HAL
                              by_cases hs0 : sl.length = 0
                              · have HF := hidM (cfgB_bad (c := c) hy (spB_len hs0))
                                have hl0 : ((sl.length : Int) == 0) = true := by rw [hs0]; rfl
                                clear hs0
                                clear hcs hWa hba BP hat hat0 ns hcap hwf hbel hbw HO hy hm hx p0
                                go_wp2_with (first | (go_at_call 21; rw [HA.out]; refine (HAL.out _).mono ?_; rintro e W1 ⟨⟨v1, rfl, a1, n1, k1, rfl⟩, hb1⟩; obtain ⟨d0, d1, d2, f0, f1, nsS, p0⟩ := HFA.out W1 hb1; have HRI := hidM (fun q => HRIS.out (W1.drewN q) (nsS.below (Drawn.below ⟨q, rfl⟩ _)))))
                                go_quiet (first
                                  | (go_at_call 22; exact Calls.quiet_of_same (HID.out _))
                                  | (go_at_call 23; exact Calls.quiet_of (HRI.out _)))
                                go_wp2
                                go_ret
                                exact ⟨by rw [HF.out]; rfl, (nxt HB0.out (nxt HB.out hb1)).trans (Drawn.below ⟨_, rfl⟩ _)⟩
                              · have hl0 : ((sl.length : Int) == 0) = false := beq_eq_false_iff_ne.2 (by omega)
                                cases hr : risL 1 cs sl with
                                | false =>
                                  have HF := hidM (cfgB_bad (c := c) hy (spB_ris (by rw [HCS.out]; exact hr)))
                                  rw [hr] at HRIS
                                  clear hcs hWa hba BP hat hat0 ns hcap hwf hbel hbw HO hy hm hx p0
                                  go_wp2_with (first | (go_at_call 21; rw [HA.out]; refine (HAL.out _).mono ?_; rintro e W1 ⟨⟨v1, rfl, a1, n1, k1, rfl⟩, hb1⟩; obtain ⟨d0, d1, d2, f0, f1, nsS, p0⟩ := HFA.out W1 hb1; have HRI := hidM (fun q => HRIS.out (W1.drewN q) (nsS.below (Drawn.below ⟨q, rfl⟩ _)))))
                                  go_quiet (first
                                    | (go_at_call 22; exact Calls.quiet_of_same (HID.out _))
                                    | (go_at_call 23; exact Calls.quiet_of (HRI.out _)))
                                  go_wp2
                                  go_ret
                                  exact ⟨by rw [HF.out]; rfl, (nxt HB0.out (nxt HB.out hb1)).trans (Drawn.below ⟨_, rfl⟩ _)⟩
                                | true =>
                                  have HO2 := hidM (HO.out.step hy (spB_mk hid he (by omega) (by rw [HCS.out]; exact hr)) (fun m' y' hm' hy' => by
                                    obtain rfl : m' = m := by omega
                                    rw [hx] at hy'
                                    injection hy' with hy'
                                    subst hy'
                                    exact hlt3))
                                  rw [hr] at HRIS
                                  clear hcs hWa hba BP hat hat0 ns hcap hwf hbel hbw HO hy hm hx p0
                                  go_wp2_with (first | (go_at_call 21; rw [HA.out]; refine (HAL.out _).mono ?_; rintro e W1 ⟨⟨v1, rfl, a1, n1, k1, rfl⟩, hb1⟩; obtain ⟨d0, d1, d2, f0, f1, nsS, p0⟩ := HFA.out W1 hb1; have HRI := hidM (fun q => HRIS.out (W1.drewN q) (nsS.below (Drawn.below ⟨q, rfl⟩ _)))))
                                  go_quiet (first
                                    | (go_at_call 22; exact Calls.quiet_of_same (HID.out _))
                                    | (go_at_call 23; exact Calls.quiet_of (HRI.out _)))
                                  go_wp2
                                  go_roundw
                                  case rel => exact ⟨k + 1, by omega, by go_num, HO2.out, (nxt HB.out hb1).trans (Drawn.below ⟨_, rfl⟩ _)⟩
                                  case measure => simp [intOf]; omega
                            · have hbe : ((allOf st).2 != 0) = true := by simpa using he
                              have HF := hidM (cfgB_bad (c := c) hy (spB_txt he))
                              generalize (allOf st).2 = er at HAL hbe he
                              clear hcs hWa hba BP hat hat0 ns hcap hwf hbel hbw HO hy hm hx p0
                              go_wp2_with (first | (go_at_call 21; rw [HA.out]; refine (HAL.out _).mono ?_; rintro e W1 ⟨⟨v1, rfl, a1, n1, k1, rfl⟩, hb1⟩; obtain ⟨d0, d1, d2, f0, f1, nsS, p0⟩ := HFA.out W1 hb1; have HRI := hidM (fun q => HRIS.out (W1.drewN q) (nsS.below (Drawn.below ⟨q, rfl⟩ _)))))
                              go_quiet (first
                                | (go_at_call 22; exact Calls.quiet_of_same (HID.out _))
                                | (go_at_call 23; exact Calls.quiet_of (HRI.out _)))
                              go_wp2
                              go_ret
                              exact ⟨by rw [HF.out]; rfl, (nxt HB0.out (nxt HB.out hb1)).trans (Drawn.below ⟨_, rfl⟩ _)⟩
                          · have d3 : decide (si ≤ pi) = true := decide_eq_true (by omega)
                            have HF := hidM (cfgB_two hm hx hy hlt3)
                            generalize (allOf st).2 = er at HAL
                            clear hcs hWa hba BP hat hat0 ns hcap hwf hbel hbw HO hy hm hx p0
                            go_wp2_with (first | (go_at_call 21; rw [HA.out]; refine (HAL.out _).mono ?_; rintro e W1 ⟨⟨v1, rfl, a1, n1, k1, rfl⟩, hb1⟩; obtain ⟨d0, d1, d2, f0, f1, nsS, p0⟩ := HFA.out W1 hb1; have HRI := hidM (fun q => HRIS.out (W1.drewN q) (nsS.below (Drawn.below ⟨q, rfl⟩ _)))))
                            go_quiet (first
                              | (go_at_call 22; exact Calls.quiet_of_same (HID.out _))
                              | (go_at_call 23; exact Calls.quiet_of (HRI.out _)))
                            go_wp2
                            go_ret
                            exact ⟨by rw [HF.out]; rfl, (nxt HB0.out (nxt HB.out hb1)).trans (Drawn.below ⟨_, rfl⟩ _)⟩
                        · have HID := hidM (fun W => isID_any si W)
                          rw [decide_eq_false hid] at HID
                          have HF := hidM (cfgB_bad (c := c) hy (spB_id hid))
                          generalize (allOf st).2 = er at HAL
                          clear hcs hWa hba BP hat hat0 ns hcap hwf hbel hbw HO hy hm hx p0
                          go_wp2_with (first | (go_at_call 21; rw [HA.out]; refine (HAL.out _).mono ?_; rintro e W1 ⟨⟨v1, rfl, a1, n1, k1, rfl⟩, hb1⟩; obtain ⟨d0, d1, d2, f0, f1, nsS, p0⟩ := HFA.out W1 hb1; have HRI := hidM (fun q => HRIS.out (W1.drewN q) (nsS.below (Drawn.below ⟨q, rfl⟩ _)))))
                          go_quiet (first
                            | (go_at_call 22; exact Calls.quiet_of_same (HID.out _))
                            | (go_at_call 23; exact Calls.quiet_of (HRI.out _)))
                          go_wp2
                          go_ret
                          exact ⟨by rw [HF.out]; rfl, (nxt HB0.out (nxt HB.out hb1)).trans (Drawn.below ⟨_, rfl⟩ _)⟩
                    · have HF := hidM (HO.out.fin (by omega) hhead.out)
                      have hlt' : ¬ (k : Int) < (c.splits.length : Int) := by omega
                      go_wp2
                      go_ret
                      exact ⟨by rw [HF.out]; rfl, nxt HB0.out hbel⟩
                · have d7 : decide (c.over < 2 * c.again) = true := decide_eq_true (by omega)
                  have HF := hidM (cfgB_head (c := c) (by cases e : headB c with
                    | false => rfl
                    | true => have := headB_of e; omega))
                  go_enter Try.func6, Try.ntmps6
                  go_wp2
                  go_ret
                  exact ⟨by rw [HF.out]; rfl, Below.refl _ _ |>.alloc (Nat.le_refl _) _⟩
              · have d6 : decide (64 < c.over) = true := decide_eq_true (by omega)
                have HF := hidM (cfgB_head (c := c) (by cases e : headB c with
                  | false => rfl
                  | true => have := headB_of e; omega))
                go_enter Try.func6, Try.ntmps6
                go_wp2
                go_ret
                exact ⟨by rw [HF.out]; rfl, Below.refl _ _ |>.alloc (Nat.le_refl _) _⟩
            · have d5 : decide (c.over < 16) = true := decide_eq_true (by omega)
              have HF := hidM (cfgB_head (c := c) (by cases e : headB c with
                | false => rfl
                | true => have := headB_of e; omega))
              go_enter Try.func6, Try.ntmps6
              go_wp2
              go_ret
              exact ⟨by rw [HF.out]; rfl, Below.refl _ _ |>.alloc (Nat.le_refl _) _⟩
          · have d4 : decide (16 < c.again) = true := decide_eq_true (by omega)
            have HF := hidM (cfgB_head (c := c) (by cases e : headB c with
              | false => rfl
              | true => have := headB_of e; omega))
            go_enter Try.func6, Try.ntmps6
            go_wp2
            go_ret
            exact ⟨by rw [HF.out]; rfl, Below.refl _ _ |>.alloc (Nat.le_refl _) _⟩
        · have d3 : decide (c.again < 1) = true := decide_eq_true (by omega)
          have HF := hidM (cfgB_head (c := c) (by cases e : headB c with
            | false => rfl
            | true => have := headB_of e; omega))
          go_enter Try.func6, Try.ntmps6
          go_wp2
          go_ret
          exact ⟨by rw [HF.out]; rfl, Below.refl _ _ |>.alloc (Nat.le_refl _) _⟩
      · have d2 : decide ((6 : Int) < (c.splits.length : Int)) = true := decide_eq_true (by omega)
        have HF := hidM (cfgB_head (c := c) (by cases e : headB c with
          | false => rfl
          | true => have := headB_of e; omega))
        go_enter Try.func6, Try.ntmps6
        go_wp2
        go_ret
        exact ⟨by rw [HF.out]; rfl, Below.refl _ _ |>.alloc (Nat.le_refl _) _⟩
    · have d1 : decide (3 < c.sites) = true := decide_eq_true (by omega)
      have HF := hidM (cfgB_head (c := c) (by cases e : headB c with
        | false => rfl
        | true => have := headB_of e; omega))
      go_enter Try.func6, Try.ntmps6
      go_wp2
      go_ret
      exact ⟨by rw [HF.out]; rfl, Below.refl _ _ |>.alloc (Nat.le_refl _) _⟩
  · have d0 : decide (c.sites < 1) = true := decide_eq_true (by omega)
    have HF := hidM (cfgB_head (c := c) (by cases e : headB c with
      | false => rfl
      | true => have := headB_of e; omega))
    go_enter Try.func6, Try.ntmps6
    go_wp2
    go_ret
    exact ⟨by rw [HF.out]; rfl, Below.refl _ _ |>.alloc (Nat.le_refl _) _⟩
end Go.Proofs.Ytdejdcibcihfeaa
