/- Texts laid together: GRBy, MRRowB, MTkF, MTk2. -/
import Derived.Test.YtaagllbcmgnbnaaGreatDoorMB11
import Derived.Test.YtaagllbcmgnbnaaGreatDoorMB29
import Derived.Test.YtaagllbcmgnbnaaGreatDoorMB13
/- The bytes of a cell: the page's. -/
namespace Go.Proofs.YtaagllbcmgnbnaaGreatDoor
open Go.RowKit
set_option linter.unusedVariables false
set_option maxRecDepth 100000

abbrev StrR (w : World) (s : ByteArray) : Ending → World → Prop := fun e w' => e = .returned (.string s) ∧ Below w.heap.size w w'
set_option maxHeartbeats 800000 in
theorem rcbytes_any (agg : Int) (v : Value) (c : Cl) (w : World) (h : CS w v c) (hc : WfC c) (hl : c.2.length ≤ 50000) :
    Calls Tryz.prog 130 #[.int .i64 agg, v] w (StrR w (cBytes agg c)) := by
  obtain ⟨a, cap, rfl, hn⟩ := h
  obtain ⟨W, hW⟩ : ∃ W : World, w.alloc (.cells #[.int .i64 c.1, .slice a c.2.length cap] 80) = W := ⟨_, rfl⟩
  have hb0 : Below w.heap.size w W := by rw [← hW]; exact (Below.refl w.heap.size w).alloc (Nat.le_refl _) _
  have hB : BlkC W w.heap.size c.1 (.slice a c.2.length cap) := by rw [← hW]; exact BlkC.new w c.1 _
  have hn1 := hn.below hb0
  have HW := hidM hW
  have HB := hidM hB
  have NX := hidM (fun W' (h : Below W.heap.size W W') => nxt hb0 h)
  by_cases h6 : agg = 6
  · subst h6
    rw [show cBytes 6 c = byTo c.2.length c.2 c.2.length by unfold cBytes; rw [if_pos rfl, byTo_end (Nat.le_refl _)]]
    have H2 := hidM (rbytes_any (c.2.length : Int) W (by omega) (by omega))
    have H3 := hidM (fun x (hx : x ∈ c.2) W' => rbytes_any x W' (hc.2 x hx).1 (hc.2 x hx).2)
    have HA := hidM (show ∀ i x, c.2[i]? = some x → ∃ p o, a = some ⟨p, o, none⟩ ∧ ∀ W', Below W.heap.size W W' → W'.cell? ⟨p, o + i, none⟩ = some (.int .i64 x) from fun i x hx => by
      obtain ⟨a', c', e, h⟩ := hn1
      injection e with e1 e2 e3
      subst e1 e3
      rcases h with e | ⟨p, o, rfl, hp, hat⟩
      · rw [e] at hx; simp at hx
      · exact ⟨p, o, rfl, fun W' hW' => hat.below hW' hp i x hx⟩)
    have HZ := hidM (fun k => byTo_len (n := c.2.length) (l := c.2) (k := k))
    clear hn hn1 hb0 hB hW hc
    obtain ⟨n, l⟩ := c
    simp only at *
    obtain ⟨m, hm⟩ : ∃ m, l.length = m := ⟨_, rfl⟩
    rw [hm] at H2 HW HB HZ hl ⊢
    have HM := hidM hm
    clear hm
    go_enter Tryz.func130, Tryz.ntmps130
    go_wp2_with (go_at_call 165; rw [HW.out]; refine H2.out.mono ?_; rintro e W3 ⟨rfl, hb3⟩; obtain ⟨d0, d1, -, -⟩ := (HB.out.below hb3).cells)
    rw [← byTo_zero m l]
    go_loopw [5, 6] (fun s i wr => ∃ k : Nat, k ≤ m ∧ i = .int .i64 (k : Int) ∧ s = .string (byTo m l k) ∧ Below W.heap.size W wr) (fun _ i _ => m - (intOf i).toNat)
    case atStart => exact ⟨0, by omega, rfl, rfl, hb3⟩
    case round =>
      obtain ⟨k, hk, rfl, rfl, hbk⟩ := hrel
      obtain ⟨e0, e1, -, -⟩ := (HB.out.below hbk).cells
      by_cases hlt : k < m
      · obtain ⟨x, hx⟩ := getSome (l := l) (i := k) (by have := HM.out; omega)
        obtain ⟨p, o, rfl, hc⟩ := HA.out k x hx
        have c5 := hc _ hbk
        have H3' := hidM (H3.out x (List.mem_of_getElem? hx) wr)
        have HS := hidM (byTo_step (n := m) hx)
        have z1 := HZ.out k
        have z2 := bytes_len x
        clear hx hc
        have hk0 : (0 : Int) ≤ k := by omega
        have hkl : (k : Int) < m := by omega
        generalize bytesOf x = bx at *
        generalize hby : byTo m l k = by0 at *
        go_wp2_with (go_at_call 165; refine H3'.out.mono ?_; rintro e W4 ⟨rfl, hb4⟩)
        go_roundw
        case rel => exact ⟨k + 1, by omega, by go_num, by rw [HS.out], nxt hbk hb4⟩
        case measure => simp [intOf]; omega
      · obtain rfl : k = m := by omega
        go_wp2
        go_ret
        exact ⟨rfl, NX.out _ hbk⟩
  · have h6' : (agg != 6) = true := by simpa using h6
    rw [show cBytes agg c = bytesOf c.1 by unfold cBytes; rw [if_neg h6]]
    have H2 := hidM (rbytes_any c.1 W hc.1.1 hc.1.2)
    clear hn hn1 hb0 hB hW
    go_enter Tryz.func130, Tryz.ntmps130
    go_wp2_with (go_at_call 165; rw [HW.out]; refine H2.out.mono ?_; rintro e W3 ⟨rfl, hb3⟩)
    go_ret
    exact ⟨rfl, NX.out _ hb3⟩
end Go.Proofs.YtaagllbcmgnbnaaGreatDoor
/- The page's own: the bytes of rows that may be. -/
namespace Go.Proofs.YtaagllbcmgnbnaaGreatDoor
open Go.RowKit
set_option linter.unusedVariables false
set_option maxRecDepth 100000
theorem rbytes_okM (n : Int) (w : World) (h : Okn n) : Calls Tryz.prog 165 #[.int .i64 n] w fun e w' => e = .returned (.string (bytesOf n)) ∧ Below w.heap.size w w' := rbytes_any n w h.1 h.2
set_option maxHeartbeats 400000 in
theorem rbytes3_any (x : Ky) (w : World) (h : x.2.size ≤ 64) (h1 : -9223372036854775808 ≤ x.1) (h2 : x.1 ≤ 9223372036854775807) :
    Calls Tryz.prog 129 #[.agg #[.int .i64 x.1, .string x.2]] w fun e w' => e = .returned (.string (kBytes x)) ∧ Below w.heap.size w w' := by
  obtain ⟨a, b⟩ := x
  have l1 := bytes_len a
  have l2 := bytes_len (b.size : Int)
  simp only at h h1 h2
  have hadd : ∀ W, (Op.stringOp .add (bytesOf a) (bytesOf (b.size : Int))).run Tryz.prog W = .ok (.string (bytesOf a ++ bytesOf (b.size : Int))) W := fun W => run_string_add_sum W _ _ (by omega)
  have hadd2 : ∀ W, (Op.stringOp .add (bytesOf a ++ bytesOf (b.size : Int)) b).run Tryz.prog W = .ok (.string (bytesOf a ++ bytesOf (b.size : Int) ++ b)) W := fun W => run_string_add_sum W _ _ (by rw [ByteArray.size_append]; omega)
  have o1 : Okn a := ⟨h1, h2⟩
  have o2 : Okn (b.size : Int) := ⟨by omega, by omega⟩
  unfold kBytes
  simp only
  clear h h1 h2 l1 l2
  go_enter Tryz.func129, Tryz.ntmps129
  go_wp2
  go_region_held3 (fun W => W.cell? ⟨w.heap.size, 0, none⟩ = some (.int .i64 a) ∧ W.cell? ⟨w.heap.size, 1, none⟩ = some (.string b) ∧ w.heap.size < W.heap.size ∧ Below w.heap.size w W) (first | exact keepB (by assumption) (by assumption) | exact startB w _ a b 66 (boxed w a b _).1 (boxed w a b _).2.1 (boxed w a b _).2.2.1 (boxed w a b _).2.2.2)
    (first | (go_at_call 165; refine (rbytes_okM _ _ (by assumption)).mono ?_; rintro e w' ⟨rfl, hb2⟩))
  obtain ⟨_, _, _, hbelW⟩ := ‹_ ∧ _ ∧ _ ∧ Below w.heap.size w _›
  go_wp2
  go_ret
  exact ⟨rfl, hbelW⟩
set_option maxHeartbeats 800000 in
theorem rrowBytes_any (agg bound : Int) (v : Value) (l : List Rw) (w : World) (h : WS w v l) (hf : FineR agg bound l) :
    Calls Tryz.prog 104 #[.int .i64 agg, v] w (StrR w (rowsBy agg l)) := by
  obtain ⟨va, vc, rfl, hsh⟩ := h
  have hlen := hf.len
  go_enter Tryz.func104, Tryz.ntmps104
  go_wp2
  go_loopw [5, 6] (fun s i wr => ∃ k : Nat, k ≤ l.length ∧ i = .int .i64 k ∧ s = .string (rowsBy agg (l.take k)) ∧ Below w.heap.size w wr) (fun _ i _ => l.length - (intOf i).toNat)
  case atStart => exact ⟨0, by omega, rfl, rfl, Below.refl _ _⟩
  case round =>
    rename World => w0
    obtain ⟨k, hk, rfl, rfl, hbel⟩ := hrel
    by_cases hlt : k < l.length
    · obtain ⟨⟨⟨ya, yb⟩, yn, yl⟩, hy⟩ := getSome hlt
      rcases hsh with hnil | ⟨b, off, rfl, hb, hat⟩
      · rw [hnil] at hlt; simp at hlt
      obtain ⟨hq1, hq2, hq3⟩ := hf.each (List.mem_of_getElem? hy)
      simp only at hq1 hq2 hq3
      have hpre := hf.sz (m := l.take k) (fun r hr => List.mem_of_mem_take hr) (by simp; omega)
      have hst : rowsBy agg (l.take (k + 1)) = rowsBy agg (l.take k) ++ kBytes (ya, yb) ++ cBytes agg (yn, yl) := by
        rw [List.take_add_one, hy]
        show rowsBy agg (l.take k ++ [((ya, yb), (yn, yl))]) = _
        rw [rowsBy_snoc]
        apply ba_ext
        simp [rowBy, ByteArray.data_append]
      have hsp := rowBy_size (agg := agg) (r := ((ya, yb), (yn, yl))) hq1 hq2.2.2
      unfold rowBy at hsp
      simp only [ByteArray.size_append] at hsp
      have hki0 : (0 : Int) ≤ (k : Int) := by omega
      have hki : (k : Int) < (l.length : Int) := by omega
      obtain ⟨a, cap, hcell⟩ : ∃ a cap, ∀ W, Below w0.heap.size w0 W → W.cell? ⟨b, off + k * 4, none⟩ = some (.int .i64 ya) ∧ W.cell? ⟨b, off + k * 4 + 1, none⟩ = some (.string yb) ∧ W.cell? ⟨b, off + k * 4 + 2, none⟩ = some (.int .i64 yn) ∧ W.cell? ⟨b, off + k * 4 + 3, none⟩ = some (.slice a yl.length cap) ∧ NS W (.slice a yl.length cap) yl ∧ Below w0.heap.size w0 W := by
        have hblt : b < w0.heap.size := Nat.lt_of_lt_of_le hb hbel.size
        obtain ⟨c0, c1, c2, a, cap, c3, ns⟩ := (hat.below hbel hb) k _ hy
        exact ⟨a, cap, fun W hW => ⟨(hW.cell (p := ⟨b, _, none⟩) hblt).trans c0, (hW.cell (p := ⟨b, _, none⟩) hblt).trans c1, (hW.cell (p := ⟨b, _, none⟩) hblt).trans c2, (hW.cell (p := ⟨b, _, none⟩) hblt).trans c3, ns.below hW, hW⟩⟩
      have HCE := hidM hcell
      obtain ⟨S, hS⟩ : ∃ S, S = rowsBy agg (l.take k) := ⟨_, rfl⟩
      rw [← hS] at hpre hst ⊢
      have hadd1 : ∀ W, (Op.stringOp .add S (kBytes (ya, yb))).run Tryz.prog W = .ok (.string (S ++ kBytes (ya, yb))) W := fun W => run_string_add_sum W _ _ (by omega)
      have hadd2 : ∀ W, (Op.stringOp .add (S ++ kBytes (ya, yb)) (cBytes agg (yn, yl))).run Tryz.prog W = .ok (.string (S ++ kBytes (ya, yb) ++ cBytes agg (yn, yl))) W := fun W => run_string_add_sum W _ _ (by rw [ByteArray.size_append]; omega)
      have HK := hidM (fun W => rbytes3_any (ya, yb) W hq1 hq3.1.1 hq3.1.2)
      have HC := hidM (fun (W : World) (hn : (W.cell? ⟨b, off + k * 4, none⟩ = some (.int .i64 ya) ∧ W.cell? ⟨b, off + k * 4 + 1, none⟩ = some (.string yb) ∧ W.cell? ⟨b, off + k * 4 + 2, none⟩ = some (.int .i64 yn) ∧ W.cell? ⟨b, off + k * 4 + 3, none⟩ = some (.slice a yl.length cap) ∧ NS W (.slice a yl.length cap) yl ∧ Below w0.heap.size w0 W)) => rcbytes_any agg (.agg #[.int .i64 yn, .slice a yl.length cap]) (yn, yl) W ⟨a, cap, rfl, hn.2.2.2.2.1⟩ hq2.2.1 (by have := hq2.2.2; omega))
      have HKEEP := hidM (fun (W W' : World) (hn : (W.cell? ⟨b, off + k * 4, none⟩ = some (.int .i64 ya) ∧ W.cell? ⟨b, off + k * 4 + 1, none⟩ = some (.string yb) ∧ W.cell? ⟨b, off + k * 4 + 2, none⟩ = some (.int .i64 yn) ∧ W.cell? ⟨b, off + k * 4 + 3, none⟩ = some (.slice a yl.length cap) ∧ NS W (.slice a yl.length cap) yl ∧ Below w0.heap.size w0 W)) (hb : Below W.heap.size W W') => hcell W' (nxt hn.2.2.2.2.2 hb))
      have HST := hidM hst
      have HBEL := hidM hbel
      clear hcell hat hy hst hS hsp hpre hq1 hq2 hq3 hbel
      go_wp2
      go_region_held3 (fun W => W.cell? ⟨b, off + k * 4, none⟩ = some (.int .i64 ya) ∧ W.cell? ⟨b, off + k * 4 + 1, none⟩ = some (.string yb) ∧ W.cell? ⟨b, off + k * 4 + 2, none⟩ = some (.int .i64 yn) ∧ W.cell? ⟨b, off + k * 4 + 3, none⟩ = some (.slice a yl.length cap) ∧ NS W (.slice a yl.length cap) yl ∧ Below w0.heap.size w0 W)
        (first
          | exact HCE.out _ (Below.refl w0.heap.size w0).drew
          | exact HKEEP.out _ _ (by assumption) (by assumption))
        (first
          | (go_at_call 129; refine (HK.out _).mono ?_; rintro e W1 ⟨rfl, hb1⟩)
          | (go_at_call 130; refine (HC.out _ (by assumption)).mono ?_; rintro e W2 ⟨rfl, hb2⟩))
      obtain ⟨-, -, -, -, -, hbW⟩ := ‹_ ∧ _ ∧ _ ∧ _ ∧ NS _ (.slice a yl.length cap) yl ∧ Below w0.heap.size w0 _›
      go_wp2
      go_roundw
      case rel => exact ⟨k + 1, by omega, by go_num, by rw [HST.out], nxt HBEL.out hbW⟩
      case measure => simp [intOf]; omega
    · have hlt' : l.length ≤ k := by omega
      rw [List.take_of_length_le hlt']
      go_wp2
      go_ret
      exact ⟨rfl, hbel⟩
end Go.Proofs.YtaagllbcmgnbnaaGreatDoor
/- row.Take, of any bytes. -/
namespace Go.Proofs.YtaagllbcmgnbnaaGreatDoor
open Go.RowKit
set_option linter.unusedVariables false
set_option maxRecDepth 100000

theorem rowTk_key {agg : Int} {bd : Nat} {s : ByteArray} (h : (kTake s).2.2 ≠ 0) : rowTk agg bd s = (r0w, 0, (kTake s).2.2) := by unfold rowTk; rw [if_pos h]
theorem rowTk_cell {agg : Int} {bd : Nat} {s : ByteArray} (h : (kTake s).2.2 = 0) (h1 : (cTake agg bd (from' s (kTake s).2.1)).2.2 ≠ 0) : rowTk agg bd s = (r0w, 0, (cTake agg bd (from' s (kTake s).2.1)).2.2) := by unfold rowTk; rw [if_neg (by simpa using h), if_pos h1]
theorem rowTk_ok {agg : Int} {bd : Nat} {s : ByteArray} (h : (kTake s).2.2 = 0) (h1 : (cTake agg bd (from' s (kTake s).2.1)).2.2 = 0) : rowTk agg bd s = (((kTake s).1, (cTake agg bd (from' s (kTake s).2.1)).1), (kTake s).2.1 + (cTake agg bd (from' s (kTake s).2.1)).2.1, 0) := by unfold rowTk; rw [if_neg (by simpa using h), if_neg (by simpa using h1)]
/-- What takeRow leaves. -/
def RowP (w : World) (r : Rw × Int × Int) (e : Ending) (w' : World) : Prop := (∃ s : Sl, e = .returned (.tuple #[.agg #[.int .i64 r.1.1.1, .string r.1.1.2, .int .i64 r.1.2.1, slV s], .int .i64 r.2.1, .int .i64 r.2.2]) ∧ OwnL w' w.heap.size (slV s) r.1.2.2) ∧ Below w.heap.size w w'
theorem takeRow_in (agg bound : Int) (S S2 : ByteArray) (ka : Int) (kb : ByteArray) (c1 : Int) (c2 : List Int) (q m : Nat) (w : World)
    (hk : kTake S = ((ka, kb), (q : Int), 0)) (hc : takeR agg bound S2 = ((c1, c2), (m : Int), 0)) (hex : S.extract q S.size = S2) (hqs : q ≤ S.size) (hS1 : S.size ≤ 1000000) (hqm : q + m ≤ S.size) :
    Calls Tryz.prog 132 #[.int .i64 agg, .int .i64 bound, .string S] w (RowP w (((ka, kb), (c1, c2)), ((q + m : Nat) : Int), 0)) := by
  have H1 := hidM (fun W => ktake_any S W (by unfold maxLen; omega))
  rw [hk] at H1
  have H2 := hidM (fun W => ctake_any agg bound S2 W (by rw [← hex, ByteArray.size_extract]; omega))
  rw [hc] at H2
  simp only at H1 H2
  have hqi : (q : Int) ≤ (S.size : Int) := by omega
  have hst : ∀ (W : World) (o : Obj), Below W.heap.size W (W.alloc o) := fun W o => (Below.refl _ _).alloc (Nat.le_refl _) _
  have HST := hidM hst
  obtain ⟨W0, hW0⟩ : ∃ W0 : World, W0 = w.alloc (.cells #[.int .i64 0, .string ⟨#[]⟩, .int .i64 0, .slice none 0 0] 82) := ⟨_, rfl⟩
  have hb0 : Below w.heap.size w W0 := by rw [hW0]; exact hst _ _
  have B4 : Blk4 W0 w.heap.size (.int .i64 0) (.string ⟨#[]⟩) (.int .i64 0) (.slice none 0 0) := by rw [hW0]; exact Blk4.new w _ _ _ _
  have HW := hidM hW0.symm
  have HB0 := hidM hb0
  have HB4 := hidM B4
  have hlt := B4.lt
  have HFA := hidM (show ∀ (W1 W2 : World) (a2 : Option Addr) (p2 : Nat), Below W0.heap.size W0 W1 → Below (W1.alloc (.cells #[.int .i64 ka, .string kb] 66)).heap.size (W1.alloc (.cells #[.int .i64 ka, .string kb] 66)) W2 → OwnL W2 (W1.alloc (.cells #[.int .i64 ka, .string kb] 66)).heap.size (.slice a2 c2.length p2) c2 →
      (W2.alloc (.cells #[.int .i64 c1, .slice a2 c2.length p2] 80)).cell? ⟨W1.heap.size, 0, none⟩ = some (.int .i64 ka) ∧ (W2.alloc (.cells #[.int .i64 c1, .slice a2 c2.length p2] 80)).cell? ⟨W1.heap.size, 1, none⟩ = some (.string kb) ∧
      Blk4 (W2.alloc (.cells #[.int .i64 c1, .slice a2 c2.length p2] 80)) w.heap.size (.int .i64 0) (.string ⟨#[]⟩) (.int .i64 0) (.slice none 0 0) ∧
      OwnL (W2.alloc (.cells #[.int .i64 c1, .slice a2 c2.length p2] 80)) W0.heap.size (.slice a2 c2.length p2) c2 ∧ Below W0.heap.size W0 (W2.alloc (.cells #[.int .i64 c1, .slice a2 c2.length p2] 80)) from fun W1 W2 a2 p2 h1 h2 h3 => by
    have hk := heap_alloc_new W1 (.cells #[.int .i64 ka, .string kb] 66)
    have g1 := nxt h1 (hst W1 (.cells #[.int .i64 ka, .string kb] 66))
    have g2 := nxt h2 (hst W2 (.cells #[.int .i64 c1, .slice a2 c2.length p2] 80))
    obtain ⟨x0, x1⟩ := blk2 ((g2.block W1.heap.size (by simp)).trans hk)
    exact ⟨x0, x1, B4.below (nxt g1 g2), (h3.below (hst _ _)).lower g1.size, nxt g1 g2⟩)
  clear hW0 B4 hst hb0 hk hc
  go_enter Tryz.func132, Tryz.ntmps132
  go_wp2_with (first
    | (go_at_call 166; rw [HW.out]; refine (H1.out _).mono ?_; rintro e W1 ⟨rfl, hb1⟩)
    | (go_at_call 167; (try rw [hex]); refine (H2.out _).mono ?_; rintro e W2 ⟨⟨v2, rfl, a2, p2, rfl, ho2⟩, hb2⟩; obtain ⟨x0, x1, xB, xO, xb⟩ := HFA.out W1 W2 a2 p2 hb1 hb2 ho2; obtain ⟨t0, -, -, -, u0, -⟩ := xB.cells; have B1 := xB.set0 (.int .i64 ka); obtain ⟨-, t1, -, -, -, u1, -⟩ := B1.cells; have B2 := B1.set1 (.string kb); obtain ⟨-, -, t2, -, -, -, u2, -⟩ := B2.cells; have B3 := B2.set2 (.int .i64 c1); obtain ⟨-, -, -, t3, -, -, -, u3⟩ := B3.cells; have B5 := B3.set3 (.slice a2 c2.length p2)))
  exact bodyPost_ret (results_cell3 rfl rfl B5.load) rfl ⟨⟨(a2, c2.length, p2), rfl, (own_set1 (own_set1 (own_set1 (own_set1 xO hlt _) hlt _) hlt _) hlt _).lower HB0.out.size⟩,
    below_set1 (below_set1 (below_set1 (below_set1 (nxt HB0.out xb) (Nat.le_refl _) _) (Nat.le_refl _) _) (Nat.le_refl _) _) (Nat.le_refl _) _⟩
theorem zero4 {w W : World} {b : Nat} (h : Blk4 W b (.int .i64 0) (.string ⟨#[]⟩) (.int .i64 0) (.slice none 0 0)) (hb : w.heap.size ≤ b) (hW : Below w.heap.size w W) :
    Blk4 ((((W.setCell ⟨b, 0, none⟩ (.int .i64 0)).setCell ⟨b, 1, none⟩ (.string ⟨#[]⟩)).setCell ⟨b, 2, none⟩ (.int .i64 0)).setCell ⟨b, 3, none⟩ (.slice none 0 0)) b (.int .i64 0) (.string ⟨#[]⟩) (.int .i64 0) (.slice none 0 0) ∧
    Below w.heap.size w ((((W.setCell ⟨b, 0, none⟩ (.int .i64 0)).setCell ⟨b, 1, none⟩ (.string ⟨#[]⟩)).setCell ⟨b, 2, none⟩ (.int .i64 0)).setCell ⟨b, 3, none⟩ (.slice none 0 0)) :=
  ⟨(((h.set0 _).set1 _).set2 _).set3 _, below_set1 (below_set1 (below_set1 (below_set1 hW hb _) hb _) hb _) hb _⟩
set_option maxHeartbeats 1000000 in
theorem takeRow_key (agg bound : Int) (S : ByteArray) (er : Int) (k : Ky) (n : Int) (w : World) (hk : kTake S = (k, n, er)) (he : er ≠ 0) (hS1 : S.size ≤ 1000000) :
    Calls Tryz.prog 132 #[.int .i64 agg, .int .i64 bound, .string S] w (RowP w (r0w, 0, er)) := by
  have H1 := hidM (fun W => ktake_any S W (by unfold maxLen; omega))
  rw [hk] at H1
  obtain ⟨ka, kb⟩ := k
  simp only at H1
  have hbe : (er != 0) = true := by simpa using he
  have hst : ∀ (W : World) (o : Obj), Below W.heap.size W (W.alloc o) := fun W o => (Below.refl _ _).alloc (Nat.le_refl _) _
  obtain ⟨W0, hW0⟩ : ∃ W0 : World, W0 = w.alloc (.cells #[.int .i64 0, .string ⟨#[]⟩, .int .i64 0, .slice none 0 0] 82) := ⟨_, rfl⟩
  have hb0 : Below w.heap.size w W0 := by rw [hW0]; exact hst _ _
  have B4 : Blk4 W0 w.heap.size (.int .i64 0) (.string ⟨#[]⟩) (.int .i64 0) (.slice none 0 0) := by rw [hW0]; exact Blk4.new w _ _ _ _
  have HW := hidM hW0.symm
  have HFA := hidM (show ∀ (W1 : World), Below W0.heap.size W0 W1 → Blk4 (W1.alloc (.cells #[.int .i64 ka, .string kb] 66)) w.heap.size (.int .i64 0) (.string ⟨#[]⟩) (.int .i64 0) (.slice none 0 0) ∧ Below w.heap.size w (W1.alloc (.cells #[.int .i64 ka, .string kb] 66)) from fun W1 h1 => ⟨B4.below (nxt h1 (hst _ _)), nxt hb0 (nxt h1 (hst _ _))⟩)
  clear hW0 B4 hst hb0 hk
  go_enter Tryz.func132, Tryz.ntmps132
  go_wp2_with (first | (go_at_call 166; go_loud (rw [HW.out]; refine (H1.out _).mono ?_; rintro e W1 ⟨rfl, hb1⟩; obtain ⟨xB, xb⟩ := HFA.out W1 hb1; have HZ := hidM (zero4 xB (Nat.le_refl _) xb); clear hb1 xb; obtain ⟨t0, -, -, -, u0, -⟩ := xB.cells; have B1 := xB.set0 (.int .i64 0); obtain ⟨-, t1, -, -, -, u1, -⟩ := B1.cells; have B2 := B1.set1 (.string ⟨#[]⟩); obtain ⟨-, -, t2, -, -, -, u2, -⟩ := B2.cells; have B3 := B2.set2 (.int .i64 0); obtain ⟨-, -, -, t3, -, -, -, u3⟩ := B3.cells)))
  exact bodyPost_ret (results_cell3 rfl rfl HZ.out.1.load) rfl ⟨⟨(none, 0, 0), rfl, OwnL.nil _ _⟩, HZ.out.2⟩
set_option maxHeartbeats 1000000 in
theorem takeRow_cell (agg bound : Int) (S S2 : ByteArray) (er : Int) (ka : Int) (kb : ByteArray) (q : Nat) (c : Cl) (n : Int) (w : World)
    (hk : kTake S = ((ka, kb), (q : Int), 0)) (hc : takeR agg bound S2 = (c, n, er)) (he : er ≠ 0) (hex : S.extract q S.size = S2) (hqs : q ≤ S.size) (hS1 : S.size ≤ 1000000) :
    Calls Tryz.prog 132 #[.int .i64 agg, .int .i64 bound, .string S] w (RowP w (r0w, 0, er)) := by
  have H1 := hidM (fun W => ktake_any S W (by unfold maxLen; omega))
  rw [hk] at H1
  have H2 := hidM (fun W => ctake_any agg bound S2 W (by rw [← hex, ByteArray.size_extract]; omega))
  rw [hc] at H2
  obtain ⟨c1, c2⟩ := c
  simp only at H1 H2
  have hqi : (q : Int) ≤ (S.size : Int) := by omega
  have hbe : (er != 0) = true := by simpa using he
  have hst : ∀ (W : World) (o : Obj), Below W.heap.size W (W.alloc o) := fun W o => (Below.refl _ _).alloc (Nat.le_refl _) _
  obtain ⟨W0, hW0⟩ : ∃ W0 : World, W0 = w.alloc (.cells #[.int .i64 0, .string ⟨#[]⟩, .int .i64 0, .slice none 0 0] 82) := ⟨_, rfl⟩
  have hb0 : Below w.heap.size w W0 := by rw [hW0]; exact hst _ _
  have B4 : Blk4 W0 w.heap.size (.int .i64 0) (.string ⟨#[]⟩) (.int .i64 0) (.slice none 0 0) := by rw [hW0]; exact Blk4.new w _ _ _ _
  have HW := hidM hW0.symm
  have HFA := hidM (show ∀ (W1 W2 : World) (v : Value), Below W0.heap.size W0 W1 → Below (W1.alloc (.cells #[.int .i64 ka, .string kb] 66)).heap.size (W1.alloc (.cells #[.int .i64 ka, .string kb] 66)) W2 → Blk4 (W2.alloc (.cells #[.int .i64 c1, v] 80)) w.heap.size (.int .i64 0) (.string ⟨#[]⟩) (.int .i64 0) (.slice none 0 0) ∧ Below w.heap.size w (W2.alloc (.cells #[.int .i64 c1, v] 80)) from fun W1 W2 v h1 h2 => by
    have g := nxt h1 (nxt (hst W1 (.cells #[.int .i64 ka, .string kb] 66)) (nxt h2 (hst W2 (.cells #[.int .i64 c1, v] 80))))
    exact ⟨B4.below g, nxt hb0 g⟩)
  clear hW0 B4 hst hb0 hk hc
  go_enter Tryz.func132, Tryz.ntmps132
  go_wp2_with (first
    | (go_at_call 166; rw [HW.out]; refine (H1.out _).mono ?_; rintro e W1 ⟨rfl, hb1⟩)
    | (go_at_call 167; (try rw [hex]); refine (H2.out _).mono ?_; rintro e W2 ⟨⟨v2, rfl, a2, p2, rfl, ho2⟩, hb2⟩; obtain ⟨xB, xb⟩ := HFA.out W1 W2 (.slice a2 c2.length p2) hb1 hb2; have HZ := hidM (zero4 xB (Nat.le_refl _) xb); clear ho2 xb; obtain ⟨t0, -, -, -, u0, -⟩ := xB.cells; have B1 := xB.set0 (.int .i64 0); obtain ⟨-, t1, -, -, -, u1, -⟩ := B1.cells; have B2 := B1.set1 (.string ⟨#[]⟩); obtain ⟨-, -, t2, -, -, -, u2, -⟩ := B2.cells; have B3 := B2.set2 (.int .i64 0); obtain ⟨-, -, -, t3, -, -, -, u3⟩ := B3.cells))
  exact bodyPost_ret (results_cell3 rfl rfl HZ.out.1.load) rfl ⟨⟨(none, 0, 0), rfl, OwnL.nil _ _⟩, HZ.out.2⟩
theorem takeR_wayM {ag bo : Int} {x : ByteArray} (hw : wayC ag bo = true) : takeR ag bo x = cTake ag bo.toNat x := by unfold takeR; rw [hw]; rfl
theorem takeRow_any (agg bound : Int) (S : ByteArray) (w : World) (hw : wayC agg bound = true) (hS1 : S.size ≤ 1000000) :
    Calls Tryz.prog 132 #[.int .i64 agg, .int .i64 bound, .string S] w (RowP w (rowTk agg bound.toNat S)) := by
  by_cases h1 : (kTake S).2.2 = 0
  · obtain ⟨q, e1, q1, q2, -⟩ := kgood h1
    have hk : kTake S = (((kTake S).1.1, (kTake S).1.2), (q : Int), 0) := by rw [← e1, ← h1]
    have hex : S.extract q S.size = from' S (kTake S).2.1 := by rw [e1]; rfl
    by_cases h2 : (cTake agg bound.toNat (from' S (kTake S).2.1)).2.2 = 0
    · rw [rowTk_ok h1 h2]
      obtain ⟨m, e2, m1, m2⟩ := cgood h2
      have hm : q + m ≤ S.size := by
        rw [← hex, ByteArray.size_extract] at m2
        omega
      have := takeRow_in agg bound S (from' S (kTake S).2.1) (kTake S).1.1 (kTake S).1.2 (cTake agg bound.toNat (from' S (kTake S).2.1)).1.1 (cTake agg bound.toNat (from' S (kTake S).2.1)).1.2 q m w hk (by rw [takeR_wayM hw, ← e2, ← h2]) hex q2 hS1 hm
      rw [e2, show (kTake S).2.1 + (m : Int) = ((q + m : Nat) : Int) by omega]
      exact this
    · rw [rowTk_cell h1 h2]
      exact takeRow_cell agg bound S (from' S (kTake S).2.1) _ (kTake S).1.1 (kTake S).1.2 q (cTake agg bound.toNat (from' S (kTake S).2.1)).1 (cTake agg bound.toNat (from' S (kTake S).2.1)).2.1 w hk (by rw [takeR_wayM hw]) h2 hex q2 hS1
  · rw [rowTk_key h1]
    exact takeRow_key agg bound S _ (kTake S).1 (kTake S).2.1 w rfl h1 hS1
end Go.Proofs.YtaagllbcmgnbnaaGreatDoor
/- row.Take, of any bytes: all rows. -/
namespace Go.Proofs.YtaagllbcmgnbnaaGreatDoor
open Go.RowKit
set_option linter.unusedVariables false
set_option maxRecDepth 100000

/-- A row of its own, appended onto rows of the call's own, behind a call. -/
theorem app_row {w w0 W2 W3 : World} {u : Value} {acc : List Rw} {ya : Int} {yb : ByteArray} {yn : Int} {yl : List Int} (s1 : Sl) (ho : OwnW w0 w.heap.size u acc) (hbel : Below w.heap.size w w0) (hl : acc.length ≤ 100000)
    (hb2 : Below w0.heap.size w0 W2) (ho2 : OwnL W2 w0.heap.size (slV s1) yl) (hb3 : Below (W2.alloc (.cells #[.int .i64 ya, .string yb, .int .i64 yn, slV s1] 82)).heap.size (W2.alloc (.cells #[.int .i64 ya, .string yb, .int .i64 yn, slV s1] 82)) W3) :
    Blk4 W3 W2.heap.size (.int .i64 ya) (.string yb) (.int .i64 yn) (slV s1) ∧ ∃ v4 W4, (Builtin.append_ #[37, 37] 37 #[u, .slice (some ⟨W3.heap.size, 0, none⟩) 1 1]).run Tryz.prog (W3.alloc (.cells #[.int .i64 ya, .string yb, .int .i64 yn, slV s1] 82)) = .ok v4 W4 ∧ OwnW W4 w.heap.size v4 (acc ++ [((ya, yb), (yn, yl))]) ∧ Below w.heap.size w W4 := by
  have hst : ∀ (W : World) (o : Obj), Below W.heap.size W (W.alloc o) := fun W o => (Below.refl _ _).alloc (Nat.le_refl _) _
  have hsz := hbel.size
  obtain ⟨xs, hx, ha⟩ := ho
  have hxl : xs.length = acc.length := ha.1
  have g3 := nxt (nxt hb2 (hst W2 (.cells #[.int .i64 ya, .string yb, .int .i64 yn, slV s1] 82))) hb3
  have g4 := nxt g3 (hst W3 (.cells #[.int .i64 ya, .string yb, .int .i64 yn, slV s1] 82))
  have X3 := hx.below g4
  have O3 : OwnL (W3.alloc (.cells #[.int .i64 ya, .string yb, .int .i64 yn, slV s1] 82)) w0.heap.size (slV s1) yl := ((ho2.below (hst _ _)).below hb3).below (hst _ _)
  obtain ⟨v4, W4, u1, X4, u3, -⟩ := append_xs 37 X3 (XS.new W3 ((ya, yb), yn, s1)) (by simp; omega) (by have := g4.size; omega)
  have hk3 := keep_row X3 u3
  refine ⟨(Blk4.new W2 _ _ _ _).below hb3, v4, W4, u1, ⟨_, X4, ?_⟩, (hbel.trans (g4.mono hsz)).grown u3 (by have := g4.size; omega) (own_row X3)⟩
  exact ((ha.keep (.below g4)).keep hk3).snoc ⟨rfl, rfl, (O3.keep hk3).lower hsz⟩
def takesRes (agg bound : Int) (s : ByteArray) : List Rw × Int := if wayC agg bound = true then rowsTk agg bound.toNat s else ([], 1)
set_option maxHeartbeats 1600000 in
theorem rowTake_any (agg bound : Int) (S : ByteArray) (w : World) (hS : S.size ≤ 900000) :
    Calls Tryz.prog 106 #[.int .i64 agg, .int .i64 bound, .string S] w (RowsR w w.heap.size (takesRes agg bound S)) := by
  have H1 := hidM (fun W => rway_any agg bound W)
  unfold takesRes
  cases hw : wayC agg bound with
  | false =>
    rw [hw] at H1
    simp only [Bool.false_eq_true, if_false]
    go_enter Tryz.func106, Tryz.ntmps106
    go_wp2_with (go_at_call 45; refine (H1.out _).mono ?_; rintro e W1 ⟨rfl, hb1⟩)
    go_ret2
    exact ⟨⟨_, rfl, OwnW.nil _ _⟩, hb1⟩
  | true =>
    rw [hw] at H1
    rw [if_pos rfl]
    have HWY := hidM hw
    clear hw
    obtain ⟨⟨R1, R2⟩, hRR⟩ : ∃ RR, RR = rowsTk agg bound.toNat S := ⟨_, rfl⟩
    rw [← hRR]
    have HRR := hidM hRR
    clear hRR
    go_enter Tryz.func106, Tryz.ntmps106
    go_wp2_with (go_at_call 45; refine (H1.out _).mono ?_; rintro e W1 ⟨rfl, hb1⟩)
    go_loopw [2, 8] (fun s vo wr => ∃ (t : ByteArray) (acc : List Rw), s = .string t ∧ Hid (RdTo agg bound.toNat S acc t) ∧ OwnW wr w.heap.size vo acc ∧ Below w.heap.size w wr) (fun s _ _ => strN s)
    case atStart => exact ⟨S, [], rfl, RdTo.start _ _ _, OwnW.nil _ _, hb1⟩
    case round =>
      clear hb1 H1
      rename World => w0
      obtain ⟨t, acc, rfl, HO, ho, hbel⟩ := hrel
      have hsz := hbel.size
      have hts : t.size ≤ 900000 := by have := HO.out.size; omega
      have hal := HO.out.len
      have HBEL := hidM hbel
      by_cases h0 : t.size = 0
      · have HF := hidM (Prod.mk.inj (HRR.out.trans (HO.out.fin h0)))
        have hd0 : decide ((0 : Int) < (t.size : Int)) = false := decide_eq_false (by omega)
        have hd0' : decide (0 < t.size) = false := decide_eq_false (by omega)
        have hd0n : ¬ 0 < t.size := by omega
        clear h0 HO
        go_wp2
        go_ret2
        exact ⟨⟨_, by rw [HF.out.2]; rfl, by rw [HF.out.1]; exact ho⟩, HBEL.out⟩
      · have hd1 : decide ((0 : Int) < (t.size : Int)) = true := decide_eq_true (by omega)
        have hd1' : decide (0 < t.size) = true := decide_eq_true (by omega)
        have hd1n : 0 < t.size := by omega
        have HC := hidM (fun W => takeRow_any agg bound t W HWY.out (by omega))
        unfold RowP at HC
        have F1 := fun he => HO.out.bad h0 he
        have F2 := fun he hm => HO.out.may h0 he hm
        have F3 := fun he hm => HO.out.step h0 he hm
        have F4 := fun he => rowTk_good (agg := agg) (bd := bound.toNat) (s := t) he
        obtain ⟨R, hR⟩ : ∃ R, R = rowTk agg bound.toNat t := ⟨_, rfl⟩
        rw [← hR] at HC F1 F2 F3 F4
        clear hR
        obtain ⟨⟨⟨ya, yb⟩, yn, yl⟩, n, er⟩ := R
        simp only at HC F1 F2 F3 F4
        by_cases he : er = 0
        · subst he
          obtain ⟨-, -, q, m, -, -, en, p1, p2, -⟩ := F4 rfl
          have F2 := F2 rfl
          have F3 := F3 rfl
          obtain ⟨j, hj⟩ : ∃ j, j = q + m := ⟨_, rfl⟩
          rw [← hj] at en p1 p2
          subst en
          have hji : (j : Int) ≤ (t.size : Int) := by omega
          have hst : ∀ (W : World) (o : Obj), Below W.heap.size W (W.alloc o) := fun W o => (Below.refl _ _).alloc (Nat.le_refl _) _
          have HM := hidM (show ∀ (W2 : World) (s1 : Sl), Below w0.heap.size w0 W2 → Calls Tryz.prog 83 #[u8, keyV (ya, yb)] (W2.alloc (.cells #[.int .i64 ya, .string yb, .int .i64 yn, slV s1] 82)) (BoolR (W2.alloc (.cells #[.int .i64 ya, .string yb, .int .i64 yn, slV s1] 82)) (mayFol acc (ya, yb))) from fun W2 s1 hb2 =>
            mayFollow_any u8 acc (ya, yb) (W2.alloc (.cells #[.int .i64 ya, .string yb, .int .i64 yn, slV s1] 82)) ((OwnW.ws ho).below (nxt hb2 (hst _ _))) (by omega))
          have HT := hidM (fun (W2 W3 : World) (s1 : Sl) h2 h3 h4 => app_row (W2 := W2) (W3 := W3) (ya := ya) (yb := yb) (yn := yn) (yl := yl) s1 ho hbel (by omega) h2 h3 h4)
          have HST := hidM hst
          cases hm : mayFol acc (ya, yb) with
          | true =>
            obtain ⟨G1, G2⟩ := F3 hm
            have HG1 := hidM G1
            have HG2 := hidM G2
            rw [hm] at HM
            have HEX := hidM (show from' t (j : Int) = t.extract j t.size from rfl)
            clear F2 F3 F4 F1 hm G1 G2 ho hst hbel h0 hj HO p1 p2
            go_wp2_with (first
              | (go_at_call 132; refine (HC.out _).mono ?_; rintro e W2 ⟨⟨⟨s1a, s1b, s1c⟩, rfl, ho2⟩, hb2⟩)
              | (go_at_call 83; refine (HM.out W2 (s1a, s1b, s1c) hb2).mono ?_; rintro e W3 ⟨rfl, hb3⟩; obtain ⟨xB, v4, W4, u1, hown4, hbel4⟩ := HT.out W2 W3 (s1a, s1b, s1c) hb2 ho2 hb3; obtain ⟨t0, t1, t2, t3, -⟩ := xB.cells; have U1 := hidM u1; clear u1)
              | (at_builtin; refine wpList_append_run _ rfl _ _ _ rfl _ _ v4 W4 rfl rfl U1.out ?_))
            refine ⟨⟨_, _, by rw [HEX.out], HG1.out, hown4, hbel4⟩, ?_⟩
            exact HG2.out
          | false =>
            have HF := hidM (Prod.mk.inj (HRR.out.trans (F2 hm)))
            rw [hm] at HM
            clear F2 F3 F4 F1 hm ho hst hbel h0 hj HO p1 p2 HT
            go_wp2_with (first
              | (go_at_call 132; refine (HC.out _).mono ?_; rintro e W2 ⟨⟨⟨s1a, s1b, s1c⟩, rfl, ho2⟩, hb2⟩; obtain ⟨t0, t1, t2, t3, -⟩ := (Blk4.new W2 (.int .i64 ya) (.string yb) (.int .i64 yn) (slV (s1a, s1b, s1c))).cells)
              | (go_at_call 83; refine (HM.out W2 (s1a, s1b, s1c) hb2).mono ?_; rintro e W3 ⟨rfl, hb3⟩))
            go_ret2
            exact ⟨⟨_, by rw [HF.out.2]; rfl, by rw [HF.out.1]; exact OwnW.nil _ _⟩, nxt HBEL.out (nxt hb2 (nxt (HST.out _ _) hb3))⟩
        · have HF := hidM (Prod.mk.inj (HRR.out.trans (F1 he)))
          have hbe : (er != 0) = true := by simpa using he
          clear F2 F3 F4 F1 ho hbel h0 HO
          go_wp2_with (first
            | (go_at_call 132; refine (HC.out _).mono ?_; rintro e W2 ⟨⟨⟨s1a, s1b, s1c⟩, rfl, ho2⟩, hb2⟩))
          go_ret2
          exact ⟨⟨_, by rw [HF.out.2]; rfl, by rw [HF.out.1]; exact OwnW.nil _ _⟩, nxt HBEL.out (nxt hb2 ((Below.refl _ _).alloc (Nat.le_refl _) _))⟩
end Go.Proofs.YtaagllbcmgnbnaaGreatDoor
