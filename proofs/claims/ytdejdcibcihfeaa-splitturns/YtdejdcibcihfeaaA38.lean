/- The law SplitTurns. -/
import Derived.Test.YtdejdcibcihfeaaA37
namespace Go.Proofs.Ytdejdcibcihfeaa
open Go.RowKit
set_option linter.unusedVariables false
set_option maxRecDepth 100000

set_option maxHeartbeats 1600000 in
theorem lawst (c : Cfg) (vp vl : Value) (l : List Int) (w : World) (h : In12 w c vp vl l) :
    Calls Try.prog 4 #[askV12 c vp vl] w fun e w' => e = .returned (.bool true) ∧ Below w.heap.size w w' := by
  obtain ⟨W0, hW0⟩ : ∃ W0 : World, W0 = w.alloc (askO12 c vp vl) := ⟨_, rfl⟩
  have hb0 : Below w.heap.size w W0 := by rw [hW0]; exact (Below.refl _ _).alloc (Nat.le_refl _) _
  have B0 : BlkK W0 w.heap.size c vp vl := by rw [hW0]; exact BlkK.new w _ _ _
  have h0 := h.below hb0
  have H1 := hidM (heavy12_any c vp vl l W0 h0)
  have HIN := hidM (show ∀ W, Below W0.heap.size W0 W → InC W c vp from fun W hW => h0.cfg.below hW)
  obtain ⟨va, vc, rfl, hvc, hvc2⟩ := h.cap
  obtain ⟨ia, ic, rfl, -⟩ := h.lcap
  have HF := hidM (show ∀ W, Below W0.heap.size W0 W → W.cell? ⟨w.heap.size, 0, none⟩ = some (.int .i64 c.sites) ∧ W.cell? ⟨w.heap.size, 1, none⟩ = some (.slice va c.splits.length vc) ∧ W.cell? ⟨w.heap.size, 2, none⟩ = some (.int .i64 c.again) ∧ W.cell? ⟨w.heap.size, 3, none⟩ = some (.int .i64 c.over) ∧ W.cell? ⟨w.heap.size, 4, none⟩ = some (.slice ia l.length ic) from fun W hW => (B0.below hW).cells)
  have HC := hidM (fun W (hW : Below W0.heap.size W0 W) => rconfig_any c _ W (HIN.out W hW))
  have HN := hidM num12_any
  have HK := hidM wakes12_any
  have HW := hidM hW0.symm
  have HB := hidM hb0
  clear hW0 hb0 B0 h h0
  go_enter Try.func4, Try.ntmps4
  go_wp2_with fail
  rw [HW.out]
  refine H1.out.mono ?_
  rintro e W1 ⟨⟨hv, rfl⟩, hb1⟩
  obtain ⟨b0, b1, b2, b3, b4⟩ := HF.out W1 hb1
  have HC1 := hidM (HC.out W1 hb1)
  cases hv with
  | true =>
    go_wp2
    go_ret
    exact ⟨rfl, nxt HB.out hb1⟩
  | false =>
  cases hok : cfgB c with
  | false =>
    rw [hok] at HC1
    go_wp2_with (first | (go_at_call 6; refine HC1.out.mono ?_; rintro e W2 ⟨rfl, hb2⟩))
    go_ret
    exact ⟨rfl, nxt HB.out (nxt hb1 hb2)⟩
  | true =>
  rw [hok] at HC1
  go_wp2_with (first | (go_at_call 6; refine HC1.out.mono ?_; rintro e W2 ⟨rfl, hb2⟩))
  have HOK := hidM hok
  obtain ⟨-, hall, hrise⟩ := cfgB_of hok
  have HALL := hidM hall
  have HRISE := hidM hrise
  have HB2 := hidM (nxt hb1 hb2)
  have HFI := hidM (fun (k : Nat) (s : Sp) (hs : c.splits[k]? = some s) => findC_rise HRISE.out hs)
  clear hok hall hrise b0 b1 b2 b3 b4 HC1 H1 hb1 hb2 HC
  go_loopw [3] (fun i wr => ∃ k : Nat, i = .int .i64 k ∧ k ≤ c.splits.length ∧ Below W0.heap.size W0 wr) (fun i _ => c.splits.length - (intOf i).toNat)
  case atStart => exact ⟨0, rfl, by omega, HB2.out⟩
  case round =>
    clear HB2
    rename World => w1
    obtain ⟨i, rfl, hi, hbr⟩ := hrel
    have HBR := hidM hbr
    obtain ⟨r0, r1, r2, r3, r4⟩ := HF.out w1 hbr
    by_cases hil : i < c.splits.length
    · have hii : (i : Int) < (c.splits.length : Int) := by omega
      have hi0 : (0 : Int) ≤ (i : Int) := by omega
      obtain ⟨⟨si, st, sl⟩, hy⟩ := getSome hil
      have hsp := HALL.out _ (List.mem_of_getElem? hy)
      obtain ⟨-, -, hl0, hris⟩ := spB_of hsp
      obtain ⟨hr1, hr2⟩ := risL_of hris
      simp only at hl0 hr1 hr2
      have hsll : sl.length ≤ 17592186043904 := ((HIN.out w1 hbr).wf _ (List.mem_of_getElem? hy)).len
      have hfi := HFI.out i _ hy
      obtain ⟨a9, c9, e9, hps⟩ := (HIN.out w1 hbr).ps
      have e91 : va = a9 := by injection e9
      clear e9
      subst e91
      rcases hps with hnil | ⟨b, off, rfl, hb, hat⟩
      · rw [hnil] at hil; simp at hil
      obtain ⟨c0, c1, sa, sc, c2, hns, -⟩ := hat i _ hy
      simp only at c0 c1 c2 hns
      obtain ⟨Wa, hWa⟩ : ∃ Wa : World, Wa = w1.alloc (.cells #[.int .i64 si, .string st, .slice sa sl.length sc] 35) := ⟨_, rfl⟩
      have hba : Below w1.heap.size w1 Wa := by rw [hWa]; exact (Below.refl _ _).alloc (Nat.le_refl _) _
      have BP : BlkP Wa w1.heap.size (.int .i64 si) (.string st) (.slice sa sl.length sc) := by rw [hWa]; exact BlkP.new w1 _ _ _
      have HBP := hidM (show ∀ W, Below Wa.heap.size Wa W → W.cell? ⟨w1.heap.size, 0, none⟩ = some (.int .i64 si) ∧ W.cell? ⟨w1.heap.size, 1, none⟩ = some (.string st) ∧ W.cell? ⟨w1.heap.size, 2, none⟩ = some (.slice sa sl.length sc) from fun W hW => (BP.below hW).cells)
      have HNS := hidM (show ∀ W, Below Wa.heap.size Wa W → NS W (.slice sa sl.length sc) sl from fun W hW => (hns.below hba).below hW)
      have HWA := hidM hWa.symm
      have HBA := hidM (nxt HBR.out hba)
      have HR1 := hidM hr1
      have HR2 := hidM hr2
      have hsites : ∀ x ∈ sl, 0 ≤ x ∧ x ≤ c.sites := fun x hx => by have := hr1 x hx; omega
      have HSI := hidM hsites
      have hcs : 1 ≤ c.sites := by
        obtain ⟨x, hx⟩ := getSome (l := sl) (i := 0) hl0
        have := hr1 x (List.mem_of_getElem? hx)
        omega
      have HNX := hidM (fun (W : World) (site : Int) (hW : Below W0.heap.size W0 W) (hs : 0 ≤ site ∧ site ≤ c.sites) => by
        have q := next12_any c _ si site W (HIN.out W hW)
        rwa [nextRes_some HOK.out hs hfi hy] at q)
      simp only at HNX
      clear hWa hba BP hns hat hb hy hsp hris hr1 hr2 hfi hsites hbr
      go_wp2
      rw [HWA.out]
      clear r0 r1 r2 r3 r4 c0 c1 c2
      go_loopw [5, 6] (fun sv t wr => ∃ (site : Int) (q : Nat), sv = .int .i64 site ∧ t = .int .i64 q ∧ q ≤ 3 ∧ (0 ≤ site ∧ site ≤ c.sites) ∧ Hid (NextAt sl 0 site) ∧ Below Wa.heap.size Wa wr) (fun _ t _ => 3 - (intOf t).toNat)
      case atStart => exact ⟨0, 0, rfl, rfl, by omega, by omega, NextAt.zero (fun x hx => (HR1.out x hx).1) hl0, Below.refl _ _⟩
      case round =>
        rename World => w2
        obtain ⟨site, q, rfl, rfl, hq, hst0, HNA, hbr⟩ := hrel
        by_cases hq3 : q < 3
        · have hqi : (q : Int) < 3 := by omega
          go_wp2
          go_loopw [5, 7] (fun sv t wr => ∃ (site : Int) (k : Nat), sv = .int .i64 site ∧ t = .int .i64 k ∧ k ≤ sl.length ∧ (0 ≤ site ∧ site ≤ c.sites) ∧ Hid (NextAt sl k site) ∧ Below Wa.heap.size Wa wr) (fun _ t _ => sl.length - (intOf t).toNat)
          case atStart => exact ⟨site, 0, rfl, rfl, by omega, hst0, HNA, hbr⟩
          case round =>
            clear hbr HNA hst0
            rename World => w3
            obtain ⟨site2, k, rfl, rfl, hk, hst, HNA, hbr⟩ := hrel
            have HBR3 := hidM hbr
            obtain ⟨d0, d1, d2⟩ := HBP.out w3 hbr
            obtain ⟨r0, r1, r2, r3, r4⟩ := HF.out w3 (nxt HBA.out hbr)
            by_cases hkl : k < sl.length
            · have hki : (k : Int) < (sl.length : Int) := by omega
              have hk0 : (0 : Int) ≤ (k : Int) := by omega
              obtain ⟨x, hx⟩ := getSome hkl
              have hnext := HNA.out.1 x hkl hx
              have HX := hidM (HNX.out w3 site2 (nxt HBA.out hbr) hst)
              rw [hnext] at HX
              have hxs := HSI.out x (List.mem_of_getElem? hx)
              have HNA2 := hidM (NextAt.step HR2.out hx)
              obtain ⟨a8, c8, e8, hns⟩ := HNS.out w3 hbr
              have e81 : sa = a8 := by injection e8
              clear e8
              subst e81
              rcases hns with hnil | ⟨b8, off8, rfl, hb8, hat8⟩
              · rw [hnil] at hkl; simp at hkl
              have HXC := hidM (show ∀ W, Below w3.heap.size w3 W → W.cell? ⟨b8, off8 + k, none⟩ = some (.int .i64 x) from fun W hW => (hW.cell (p := ⟨b8, _, none⟩) hb8).trans (hat8 k x hx))
              clear hat8 hx hnext hbr HNA
              go_wp2_with (first
                | (go_at_call 13; refine HX.out.mono ?_; rintro e W4 ⟨rfl, hb4⟩; have f0 := HXC.out W4 hb4; obtain ⟨g0, g1, g2⟩ := HBP.out W4 (nxt HBR3.out hb4))
                | (go_at_call 7; refine (HN.out _ _).mono ?_; rintro e W5 ⟨rfl, hw5⟩; subst W5))
              go_roundw
              case rel => exact ⟨x, k + 1, rfl, by go_num, by omega, hxs, HNA2.out, nxt HBR3.out hb4⟩
              case measure => simp [intOf]; omega
            · obtain rfl : k = sl.length := by omega
              have hki : ¬ (sl.length : Int) < (sl.length : Int) := by omega
              have HNA2 := hidM (NextAt.turn HNA.out)
              go_wp2
              go_roundw
              case rel => exact ⟨site2, q + 1, rfl, by go_num, by omega, hst, HNA2.out, hbr⟩
              case measure => simp [intOf]; omega
        · have hqi : ¬ (q : Int) < 3 := by omega
          go_wp2
          go_roundw
          case rel => exact ⟨i + 1, by go_num, by omega, nxt HBA.out hbr⟩
          case measure => simp [intOf]; omega
    · have hii : ¬ (i : Int) < (c.splits.length : Int) := by omega
      have HK1 := hidM (HK.out w1)
      go_wp2_with (go_at_call 19; refine HK1.out.mono ?_; rintro e W8 ⟨rfl, hb8⟩)
      go_ret
      exact ⟨rfl, nxt HB.out (nxt HBR.out hb8)⟩
end Go.Proofs.Ytdejdcibcihfeaa
