/- The bytes of any cell, and which one any bytes begin with: the walk. -/
import Derived.Test.YthgfngbgohacaaaGGath
import Derived.Test.YthgfngbgohacaaaGRTk
import Derived.Test.YthgfngbgohacaaaGRBy
import Derived.Test.YthgfngbgohacaaaGRWay
import Derived.Deep.CutBlock
namespace Go.Proofs.Ythgfngbgohacaaa
open Go.RowKit
set_option linter.unusedVariables false
set_option maxRecDepth 100000

/-- Cells that came in, in whatever world comes behind. -/
theorem cells_at {W0 : World} {aL : Option Addr} {n cap : Nat} {L : List Cl} (h : LS W0 (.slice aL n cap) L) : ∀ i c, L[i]? = some c → ∃ p o a cp, aL = some ⟨p, o, none⟩ ∧ ∀ W', Below W0.heap.size W0 W' → W'.cell? ⟨p, o + i * 2, none⟩ = some (.int .i64 c.1) ∧ W'.cell? ⟨p, o + i * 2 + 1, none⟩ = some (.slice a c.2.length cp) ∧ NS W' (.slice a c.2.length cp) c.2 := fun i c hc => by
  obtain ⟨a', c', e, h⟩ := h
  injection e with e1 e2 e3
  subst e1 e3
  rcases h with e | ⟨p, o, rfl, hp, hat⟩
  · rw [e] at hc; simp at hc
  · obtain ⟨h1, a, cp, h2, h3⟩ := hat i c hc
    refine ⟨p, o, a, cp, rfl, fun W' hW' => ⟨(hW'.cell (p := ⟨p, o + i * 2, none⟩) hp).trans h1, (hW'.cell (p := ⟨p, o + i * 2 + 1, none⟩) hp).trans h2, h3.below hW'⟩⟩
/-- What a round reads of the cells. -/
abbrev CellP (W : World) (b0 : Nat) (ag bo : Int) (p o n cL k : Nat) (c : Cl) (a : Option Addr) (cp : Nat) : Prop :=
  W.cell? ⟨b0, 0, none⟩ = some (.int .i64 ag) ∧ W.cell? ⟨b0, 1, none⟩ = some (.int .i64 bo) ∧ W.cell? ⟨b0, 2, none⟩ = some (.slice (some ⟨p, o, none⟩) n cL) ∧ W.cell? ⟨p, o + k * 2, none⟩ = some (.int .i64 c.1) ∧ W.cell? ⟨p, o + k * 2 + 1, none⟩ = some (.slice a c.2.length cp)
theorem keepC {W0 W : World} {b0 : Nat} {ag bo : Int} {p o n cL k cp : Nat} {c : Cl} {a : Option Addr} {vv : Value} {x : ByteArray} (hb : Below W0.heap.size W0 W) (hB : Box W0 b0 ag bo (.slice (some ⟨p, o, none⟩) n cL) vv x) (hc : ∀ W', Below W0.heap.size W0 W' → W'.cell? ⟨p, o + k * 2, none⟩ = some (.int .i64 c.1) ∧ W'.cell? ⟨p, o + k * 2 + 1, none⟩ = some (.slice a c.2.length cp) ∧ NS W' (.slice a c.2.length cp) c.2) : CellP W b0 ag bo p o n cL k c a cp := by
  obtain ⟨h0, h1, h2, _, _⟩ := (hB.below hb).cells
  obtain ⟨h3, h4, _⟩ := hc _ hb
  exact ⟨h0, h1, h2, h3, h4⟩
theorem takeR_way {ag bo : Int} {x : ByteArray} (hw : wayC ag bo = true) : takeR ag bo x = cTake ag bo.toNat x := by unfold takeR; rw [hw]; simp
theorem takeR_not {ag bo : Int} {x : ByteArray} (hw : wayC ag bo = false) : takeR ag bo x = ((0, []), 0, 1) := by unfold takeR; rw [hw]; simp
theorem takeR_len {ag bo : Int} {x : ByteArray} : (takeR ag bo x).1.2.length ≤ 32 := by
  unfold takeR
  split
  · rename_i hw
    obtain ⟨g1, g6, gb, gb32, gb1⟩ := wayC_bd hw
    by_cases h6 : ag = 6
    · subst h6
      rw [cTake6]
      have := tSet_len bo.toNat x
      split
      · simp
      · split
        · show (tSet bo.toNat x).1.length ≤ 32; omega
        · simp
    · rw [cTakeN h6]
      split
      · simp
      · split <;> simp
  · simp
set_option maxHeartbeats 4000000 in
theorem lawgb (ag bo : Int) (vl vv : Value) (x : ByteArray) (L : List Cl) (l : List Int) (w : World) (h : In9 w ag bo vl vv x L l) :
    Calls Try.prog 4 #[askV ag bo vl vv x] w (BoolR w true) := by
  obtain ⟨W0, hW0⟩ : ∃ W0 : World, w.alloc (askO ag bo vl vv x) = W0 := ⟨_, rfl⟩
  have hb0 : Below w.heap.size w W0 := by rw [← hW0]; exact stp _ _
  have hB0 : Box W0 w.heap.size ag bo vl vv x := by rw [← hW0]; exact heap_alloc_new w _
  have hin : In9 W0 ag bo vl vv x L l := ⟨h.hagg, h.hbound, ⟨h.hL.1.below hb0, h.hL.2⟩, ⟨h.hl.1.below hb0, h.hl.2⟩, h.hcap, h.hx⟩
  have Hh := hidM (heavy_any ag bo vl vv x L l W0 hin)
  have HW0 := hidM hW0
  have HB0 := hidM hB0
  have NX := hidM (fun W (hb : Below W0.heap.size W0 W) => nxt hb0 hb)
  obtain ⟨aL, cL, rfl, -⟩ := h.hL.1
  have HA := hidM (cells_at hin.hL.1)
  have HWF := hidM h.hL.2.2
  obtain ⟨n, hn⟩ : ∃ n, L.length = n := ⟨_, rfl⟩
  have HN := hidM hn
  have hnn := h.hL.2.1
  rw [hn] at Hh HW0 HB0 hnn ⊢
  have hni : (n : Int) ≤ 17592186043904 := by omega
  have HK := hidM wakes_any
  have H1 := hidM (fun W => way_any ag bo W)
  have H3 := hidM num_any
  have H4 := hidM (fun (d : Cl) v u W (h1 : CS W v d) (h2 : CS W u d) (h3 : d.2.length ≤ 4000) => eqcell_any v u d W h1 h2 (by omega))
  have H5 := hidM (fun (s : ByteArray) W (h : s.size ≤ 100000) => ctake_any ag bo s W (by omega))
  have H6 := hidM (fun (hw : wayC ag bo = true) (s : ByteArray) W (h : s.size ≤ 100000) => (by
    obtain ⟨g1, g6, gb, gb32, gb1⟩ := wayC_bd hw
    have := rctake_any ag bo.toNat s W (by omega) (by omega)
    rw [Int.toNat_of_nonneg gb, ← takeR_way hw] at this
    exact this : Calls Try.prog 22 #[.int .i64 ag, .int .i64 bo, .string s] W (TakR W (takeR ag bo s))))
  have H7 := hidM (fun (c : Cl) v W (h1 : CS W v c) (h2 : WfC c) (h3 : c.2.length ≤ 4000) => cbytes_any ag bo v c W h1 h2 (by omega))
  have H8 := hidM (fun (c : Cl) v W (h1 : CS W v c) (h2 : WfC c) (h3 : c.2.length ≤ 4000) => rcbytes_any ag v c W h1 h2 (by omega))
  have H9 := hidM (fun (hw : wayC ag bo = true) (c : Cl) v W (h1 : CS W v c) (h3 : c.2.length ≤ 4000) => (by
    obtain ⟨g1, g6, gb, gb32, gb1⟩ := wayC_bd hw
    have := rcell_any ag bo.toNat v c W h1 (by omega)
    rw [Int.toNat_of_nonneg gb, show mayC ag bo.toNat c = chk ag bo c by unfold chk; rw [hw]; rfl] at this
    exact this : Calls Try.prog 15 #[.int .i64 ag, .int .i64 bo, v] W (BoolR W (chk ag bo c))))
  clear h hin hb0 hB0 hn hnn hW0
  obtain ⟨wy, hwy⟩ : ∃ wy, wayC ag bo = wy := ⟨_, rfl⟩
  rw [hwy] at H1
  have HWY := hidM hwy
  clear hwy
  go_enter Try.func4, Try.ntmps4
  go_wp2_with (go_at_call 9; rw [HW0.out]; refine Hh.out.mono ?_)
  rintro e W1 ⟨⟨r, rfl, hr⟩, hb1⟩
  cases r with
  | true =>
    go_wp2
    go_ret
    exact ⟨rfl, NX.out _ hb1⟩
  | false =>
    have hsm := hr rfl
    have HSM := hidM hsm
    obtain ⟨q0, q1, q2, q3, q4⟩ := (HB0.out.below hb1).cells
    have H5' := hidM (fun W => H5.out x W (by have := HSM.out.hx; omega))
    have HTL := hidM (takeR_len (ag := ag) (bo := bo) (x := x))
    have H6' := hidM (fun hw W => H6.out hw x W (by have := HSM.out.hx; omega))
    have HTN := hidM (fun hw => takeR_not (ag := ag) (bo := bo) (x := x) hw)
    generalize takeR ag bo x = t at *
    obtain ⟨c0, n0, e0⟩ := t
    simp only at H5' H6' HTL HTN
    go_upto_if 37 with (first | (go_at_call 10; refine (H1.out _).mono ?_; rintro e w' ⟨rfl, hw⟩; obtain rfl := hw.symm) | (go_at_call 21; refine (H5'.out _).mono ?_; rintro e W2 ⟨⟨v2, rfl, a2, c2, rfl, ho2⟩, hb2⟩))
    have st2 := stp W2 (.cells #[.int .i64 c0.1, .slice a2 c0.2.length c2] 29)
    have st3 := stp (W2.alloc (.cells #[.int .i64 c0.1, .slice a2 c0.2.length c2] 29)) (.cells #[.int .i64 0, .slice none 0 0] 29)
    have T4 := hidM (⟨nxt hb1 (nxt hb2 (nxt st2 st3)), (BlkC.new W2 c0.1 (.slice a2 c0.2.length c2)).below st3, (ho2.ns.below st2).below st3⟩ : TB W0 W2.heap.size c0 a2 c2 ((W2.alloc (.cells #[.int .i64 c0.1, .slice a2 c0.2.length c2] 29)).alloc (.cells #[.int .i64 0, .slice none 0 0] 29)))
    have hB8 : BlkC ((W2.alloc (.cells #[.int .i64 c0.1, .slice a2 c0.2.length c2] 29)).alloc (.cells #[.int .i64 0, .slice none 0 0] 29)) (W2.heap.size + 1) 0 (.slice none 0 0) := by
      have := BlkC.new (W2.alloc (.cells #[.int .i64 c0.1, .slice a2 c0.2.length c2] 29)) 0 (.slice none 0 0)
      simpa using this
    have HB8 := hidM hB8
    have HB40 := hidM (show W0.heap.size ≤ W2.heap.size from Nat.le_trans hb1.size hb2.size)
    have HN2 := hidM ho2.ns
    have HBW := hidM (nxt st2 st3)
    clear st2 st3 hb1 hb2 ho2 hr hsm q0 q1 q2 q3 q4 hB8
    generalize hW3 : (W2.alloc (.cells #[.int .i64 c0.1, .slice a2 c0.2.length c2] 29)).alloc (.cells #[.int .i64 0, .slice none 0 0] 29) = W3 at *
    clear hW3
    obtain ⟨q0, q1, q2, q3, q4⟩ := (HB0.out.below T4.out.bel).cells
    go_cut [7, 9] from 38 to 48 (fun s7 s9 wx => s7 = .int .i64 e0 ∧ s9 = .int .i64 n0 ∧ ∃ (a' : Option Addr) (cap' : Nat), Hid (TB W0 W2.heap.size c0 a2 c2 wx) ∧ Hid (BlkC wx (W2.heap.size + 1) c0.1 (.slice a' c0.2.length cap') ∧ NS wx (.slice a' c0.2.length cap') c0.2))
    case first =>
      cases wy with
      | false =>
        have ht := HTN.out HWY.out
        injection ht with ht1 ht2
        injection ht2 with ht2 ht3
        subst ht1 ht2 ht3
        go_wp2
        go_meet
        exact ⟨rfl, rfl, none, 0, T4, HB8.out, none, 0, rfl, .inl rfl⟩
      | true =>
        have H6'' := hidM (H6'.out HWY.out W3)
        go_wp2_with (go_at_call 22; refine H6''.out.mono ?_; rintro e W4 ⟨⟨v4, rfl, a4, c4, rfl, ho4⟩, hb4⟩; have hB := HB8.out.below hb4; obtain ⟨k0, k1, g0, g1⟩ := hB.cells; obtain ⟨-, k1', -, g1'⟩ := (hB.set0 c0.1).cells)
        go_meet
        have hlt := HB8.out.lt
        have T5 := T4.out.next hb4
        have hfin : Below W2.heap.size W2 ((W4.setCell ⟨W2.heap.size + 1, 0, none⟩ (.int .i64 c0.1)).setCell ⟨W2.heap.size + 1, 1, none⟩ (.slice a4 c0.2.length c4)) := below_set (nxt HBW.out hb4) (by omega) _ _
        refine ⟨rfl, rfl, a4, c4, ⟨?_, (T5.blk.other (by omega)).other (by omega), HN2.out.below hfin⟩, hB.set, (own_set ho4 hlt _ _).ns⟩
        exact below_set T5.bel (by have := HB40.out; omega) _ _
    case rest =>
      obtain ⟨rfl, rfl, a', cap', T5, HB9⟩ := hcut
      clear q0 q1 q2 q3 q4
      obtain ⟨q0, q1, q2, q3, q4⟩ := (HB0.out.below T5.out.bel).cells
      obtain ⟨y0, y1, -, -⟩ := T5.out.blk.cells
      obtain ⟨z0, z1, -, -⟩ := HB9.out.1.cells
      have E1 := hidM (H4.out c0 _ _ _ T5.out.cs ⟨a', cap', rfl, HB9.out.2⟩ (by have := HTL.out; omega))
      go_wp2_with (first | (go_at_call 13; refine (H3.out _ _).mono ?_; rintro e w' ⟨rfl, rfl⟩) | (go_at_call 14; refine E1.out.mono ?_; rintro e W5 ⟨rfl, hb5⟩))
      have HB5 := hidM (nxt T5.out.bel hb5)
      clear q0 q1 q2 q3 q4 y0 y1 z0 z1 hb5
      obtain ⟨q0, q1, q2, q3, q4⟩ := (HB0.out.below HB5.out).cells
      go_loopw [10] (fun i wr => ∃ k : Nat, k ≤ n ∧ k ≤ 10 ∧ i = .int .i64 (k : Int) ∧ Hid (Below W0.heap.size W0 wr)) (fun i _ => n - (intOf i).toNat)
      case atStart => exact ⟨0, by omega, by omega, rfl, HB5⟩
      case round =>
        obtain ⟨k, hk, hk10, rfl, HBK⟩ := hrel
        clear q0 q1 q2 q3 q4
        obtain ⟨q0, q1, q2, q3, q4⟩ := (HB0.out.below HBK.out).cells
        by_cases hkn : k < n
        · by_cases hk9 : k < 10
          · obtain ⟨c, hc⟩ := getSome (l := L) (i := k) (by have := HN.out; omega)
            have HWC := hidM (HWF.out c (List.mem_of_getElem? hc)).1
            have HLC := hidM (HSM.out.hc c (List.mem_of_getElem? hc))
            obtain ⟨p, o, a, cp, rfl, hcc⟩ := HA.out k c hc
            have HCC := hidM hcc
            clear hc hcc q0 q1 q2 q3 q4
            obtain ⟨m0, m1, m2, m3, m4⟩ := keepC HBK.out HB0.out HCC.out
            have hk0 : (0 : Int) ≤ k := by omega
            have hki : (k : Int) < n := by omega
            cases hch : chk ag bo c with
            | false =>
              have HBR := hidM (show bytesR ag bo c = (⟨#[]⟩, 1) by unfold bytesR; rw [hch]; simp)
              cases wy with
              | false =>
                go_wp2
                go_region_held3 (fun W' => CellP W' w.heap.size ag bo p o n cL k c a cp)
                  (first | exact keepC (nxt HBK.out (drw _)) HB0.out HCC.out | exact keepC (nxt (nxt HBK.out (drw _)) hb6) HB0.out HCC.out)
                  (first | (go_at_call 23; refine (H7.out c _ _ ⟨a, cp, rfl, (HCC.out _ (nxt HBK.out (drw _))).2.2⟩ HWC.out HLC.out).mono ?_; rw [HBR.out]; rintro e W6 ⟨rfl, hb6⟩))
                have HB6 := hidM (nxt (nxt HBK.out (drw _)) hb6)
                clear hb6 m0 m1 m2 m3 m4
                obtain ⟨m0, m1, m2, m3, m4⟩ := keepC HB6.out HB0.out HCC.out
                go_wp2
                go_quiet (fail)
                go_wp2_with (go_at_call 13; refine (H3.out _ _).mono ?_; rintro e w' ⟨rfl, rfl⟩)
                go_roundw
                case rel => exact ⟨k + 1, by omega, by omega, by go_num, nxt HB6.out ((Drawn.refl _).step _ |>.below _)⟩
                case measure => simp [intOf]; omega
              | true =>
                have HCH := hidM hch
                clear hch
                go_wp2
                go_region_held3 (fun W' => CellP W' w.heap.size ag bo p o n cL k c a cp)
                  (first | exact keepC (nxt HBK.out (drw _)) HB0.out HCC.out | exact keepC (nxt (nxt HBK.out (drw _)) hb6) HB0.out HCC.out)
                  (first | (go_at_call 23; refine (H7.out c _ _ ⟨a, cp, rfl, (HCC.out _ (nxt HBK.out (drw _))).2.2⟩ HWC.out HLC.out).mono ?_; rw [HBR.out]; rintro e W6 ⟨rfl, hb6⟩))
                have HB6 := hidM (nxt (nxt HBK.out (drw _)) hb6)
                clear hb6 m0 m1 m2 m3 m4
                obtain ⟨m0, m1, m2, m3, m4⟩ := keepC HB6.out HB0.out HCC.out
                go_wp2
                go_region_held3 (fun W' => CellP W' w.heap.size ag bo p o n cL k c a cp)
                  (first | exact keepC (nxt HB6.out (drw _)) HB0.out HCC.out | exact keepC (nxt (nxt HB6.out (drw _)) hb7) HB0.out HCC.out)
                  (first | (go_at_call 15; refine (H9.out HWY.out c _ _ ⟨a, cp, rfl, (HCC.out _ (nxt HB6.out (drw _))).2.2⟩ HLC.out).mono ?_; rw [HCH.out]; rintro e W7 ⟨rfl, hb7⟩))
                have HB7 := hidM (nxt (nxt HB6.out (drw _)) hb7)
                clear hb7 m0 m1 m2 m3 m4
                obtain ⟨m0, m1, m2, m3, m4⟩ := keepC HB7.out HB0.out HCC.out
                go_wp2_with (go_at_call 13; refine (H3.out _ _).mono ?_; rintro e w' ⟨rfl, rfl⟩)
                go_roundw
                case rel => exact ⟨k + 1, by omega, by omega, by go_num, HB7⟩
                case measure => simp [intOf]; omega
            | true =>
              have HCH := hidM hch
              have hwt : wy = true := by have := (chk_may hch).1; rw [← this]; exact HWY.out.symm
              subst hwt
              have htk := take_of_bytes hch HWC.out x
              have HBR := hidM (bytesR_of hch)
              have H8c := hidM (fun W (h : NS W (.slice a c.2.length cp) c.2) => H8.out c _ W ⟨a, cp, rfl, h⟩ HWC.out HLC.out)
              have hz := cBytes_len (agg := ag) (c := c)
              have hz' : (cBytes ag c).size ≤ 50000 := by have := HLC.out; omega
              have hxz := HSM.out.hx
              have H5c := hidM (fun W => H5.out (cBytes ag c ++ x) W (by rw [ByteArray.size_append]; omega))
              rw [htk] at H5c
              have hsi : ((cBytes ag c).size : Int) ≤ 50000 := by omega
              have hxi : (x.size : Int) ≤ 4000 := by omega
              clear hch htk hz hz' hxz
              generalize cBytes ag c = s at *
              go_wp2
              go_region_held3 (fun W' => CellP W' w.heap.size ag bo p o n cL k c a cp)
                (first | exact keepC (nxt HBK.out (drw _)) HB0.out HCC.out | exact keepC (nxt (nxt HBK.out (drw _)) hb6) HB0.out HCC.out)
                (first | (go_at_call 23; refine (H7.out c _ _ ⟨a, cp, rfl, (HCC.out _ (nxt HBK.out (drw _))).2.2⟩ HWC.out HLC.out).mono ?_; rw [HBR.out]; rintro e W6 ⟨rfl, hb6⟩))
              have HB6 := hidM (nxt (nxt HBK.out (drw _)) hb6)
              clear hb6 m0 m1 m2 m3 m4
              obtain ⟨m0, m1, m2, m3, m4⟩ := keepC HB6.out HB0.out HCC.out
              go_wp2
              go_region_held3 (fun W' => CellP W' w.heap.size ag bo p o n cL k c a cp)
                (first | exact keepC (nxt HB6.out (drw _)) HB0.out HCC.out | exact keepC (nxt (nxt HB6.out (drw _)) hb7) HB0.out HCC.out)
                (first | (go_at_call 15; refine (H9.out HWY.out c _ _ ⟨a, cp, rfl, (HCC.out _ (nxt HB6.out (drw _))).2.2⟩ HLC.out).mono ?_; rw [HCH.out]; rintro e W7 ⟨rfl, hb7⟩))
              have HB7 := hidM (nxt (nxt HB6.out (drw _)) hb7)
              clear hb7 m0 m1 m2 m3 m4
              obtain ⟨m0, m1, m2, m3, m4⟩ := keepC HB7.out HB0.out HCC.out
              go_wp2
              go_region_held3 (fun W' => CellP W' w.heap.size ag bo p o n cL k c a cp)
                (first | exact keepC (nxt HB7.out (drw _)) HB0.out HCC.out | exact keepC (nxt (nxt HB7.out (drw _)) hb8) HB0.out HCC.out)
                (first | (go_at_call 24; refine (H8c.out _ (HCC.out _ (nxt HB7.out (drw _))).2.2).mono ?_; rintro e W8 ⟨rfl, hb8⟩))
              have HB8' := hidM (nxt (nxt HB7.out (drw _)) hb8)
              clear hb8 m0 m1 m2 m3 m4
              obtain ⟨q0, q1, q2, q3, q4⟩ := (HB0.out.below HB8'.out).cells
              go_wp2_with (first | (go_at_call 13; refine (H3.out _ _).mono ?_; rintro e w' ⟨rfl, rfl⟩) | (go_at_call 21; refine (H5c.out _).mono ?_; rintro e W9 ⟨⟨v9, rfl, a9, c9, rfl, ho9⟩, hb9⟩))
              have st9 := stp W9 (.cells #[.int .i64 c.1, .slice a9 c.2.length c9] 29)
              have T9 := hidM (⟨nxt HB8'.out (nxt hb9 st9), BlkC.new W9 c.1 (.slice a9 c.2.length c9), ho9.ns.below st9⟩ : TB W0 W9.heap.size c a9 c9 (W9.alloc (.cells #[.int .i64 c.1, .slice a9 c.2.length c9] 29)))
              clear st9 hb9 ho9 q0 q1 q2 q3 q4
              generalize hW9 : W9.alloc (.cells #[.int .i64 c.1, .slice a9 c.2.length c9] 29) = W10 at *
              clear hW9
              obtain ⟨m0, m1, m2, m3, m4⟩ := keepC T9.out.bel HB0.out HCC.out
              obtain ⟨y0, y1, -, -⟩ := T9.out.blk.cells
              go_wp2
              go_region_held3 (fun W' => (W'.cell? ⟨W9.heap.size, 0, none⟩ = some (.int .i64 c.1) ∧ W'.cell? ⟨W9.heap.size, 1, none⟩ = some (.slice a9 c.2.length c9)) ∧ CellP W' w.heap.size ag bo p o n cL k c a cp)
                (first | exact ⟨⟨(T9.out.next (drw _)).blk.cells.1, (T9.out.next (drw _)).blk.cells.2.1⟩, keepC (T9.out.next (drw _)).bel HB0.out HCC.out⟩ | exact ⟨⟨((T9.out.next (drw _)).next hb11).blk.cells.1, ((T9.out.next (drw _)).next hb11).blk.cells.2.1⟩, keepC ((T9.out.next (drw _)).next hb11).bel HB0.out HCC.out⟩)
                (first | (go_at_call 13; refine (H3.out _ _).mono ?_; rintro e w' ⟨rfl, rfl⟩) | (go_at_call 14; refine (H4.out c _ _ _ (T9.out.next (drw _)).cs ⟨a, cp, rfl, (HCC.out _ (T9.out.next (drw _)).bel).2.2⟩ HLC.out).mono ?_; rintro e W11 ⟨rfl, hb11⟩))
              go_wp2
              go_roundw
              case rel => exact ⟨k + 1, by omega, by omega, by go_num, ((T9.out.next (drw _)).next hb11).bel⟩
              case measure => simp [intOf]; omega
          · obtain rfl : k = 10 := by omega
            have hki : (10 : Int) < n := by omega
            go_wp2_with (go_at_call 20; refine (HK.out _).mono ?_; rintro e W5 ⟨rfl, hb5⟩)
            go_ret
            exact ⟨rfl, NX.out _ (nxt HBK.out hb5)⟩
        · obtain rfl : k = n := by omega
          go_wp2_with (go_at_call 20; refine (HK.out _).mono ?_; rintro e W5 ⟨rfl, hb5⟩)
          go_ret
          exact ⟨rfl, NX.out _ (nxt HBK.out hb5)⟩
end Go.Proofs.Ythgfngbgohacaaa
