/- row.Join of runs that may be; parts of records; RowParts: its walk. -/
import Derived.Test.YticpaemmdfmbfaaWChkF
import Derived.Test.YticpaemmdfmbfaaWLaw
import Derived.Deep.CutBlock
namespace Go.Proofs.Yticpaemmdfmbfaa
open Go.RowKit Go.Maps
set_option linter.unusedVariables false

/-- Runs of rows, and none longer than it may be. -/
def RunsC (w : World) (b off : Nat) (L : List (List Rw)) : Prop := ∀ (i : Nat) (l : List Rw), L[i]? = some l → ∃ u, w.cell? ⟨b, off + i, none⟩ = some u ∧ WS w u l ∧ CapOk u
def RnS (w : World) (v : Value) (L : List (List Rw)) : Prop := ∃ a cap, v = .slice a L.length cap ∧ (L = [] ∨ ∃ b off, a = some ⟨b, off, none⟩ ∧ b < w.heap.size ∧ RunsC w b off L)
theorem RunsC.below {w w' : World} {b off B : Nat} {L : List (List Rw)} (h : RunsC w b off L) (hb : Below w.heap.size w w') (hlt : b < w.heap.size) : RunsC w' b off L := fun i l hl => by
  obtain ⟨u, h1, h2, h3⟩ := h i l hl
  exact ⟨u, (hb.cell (p := ⟨b, _, none⟩) hlt).trans h1, h2.below hb, h3⟩
/-- What each run is. -/
structure RunOk (agg bound : Int) (l : List Rw) : Prop where
  ok : okRows agg bound l = true
  cell : ∀ r ∈ l, OkC agg bound r.2
  key : ∀ r ∈ l, Good r.1
theorem flat_snoc {L : List (List Rw)} {k : Nat} {r : List Rw} (hr : L[k]? = some r) : (L.take (k + 1)).flatten = (L.take k).flatten ++ r := by
  rw [List.take_add_one, hr]
  simp
theorem len_mono (J : Cl → Cl → Cl × Int) (a b : List Rw) : (gat J a).1.length ≤ (gat J (a ++ b)).1.length := by
  induction b using snoc_ind with
  | h0 => rw [List.append_nil]; exact Nat.le_refl _
  | h1 b r ih =>
    rw [← List.append_assoc, gat_snoc]
    unfold stepG
    simp only
    rw [len_putR (rise_gat J (a ++ b))]
    split <;> omega
theorem flat_take (L : List (List Rw)) (k : Nat) : ∃ m, L.flatten = (L.take k).flatten ++ m := ⟨(L.drop k).flatten, by rw [← List.flatten_append, List.take_append_drop]⟩
theorem flat_mem {L : List (List Rw)} {k : Nat} {x : Rw} (h : x ∈ (L.take k).flatten) : ∃ l ∈ L, x ∈ l := by
  obtain ⟨l, hl, hx⟩ := List.mem_flatten.1 h
  exact ⟨l, List.mem_of_mem_take hl, hx⟩
theorem Gat.len_run {w : World} {base gp mp n : Nat} {agg bound : Int} {st : List Rw} {bad : Int} (h : Gat w base gp mp agg bound st bad n) : ∃ D, w.ownsMap Try.prog 52 RC mp n D ∧ Maps.size D = st.length := by
  obtain ⟨D, h1, h2⟩ := h.mo
  exact ⟨D, h1, h2.size⟩
theorem gatOk {agg bound : Int} {L : List (List Rw)} (hL : ∀ l ∈ L, RunOk agg bound l) (m : List Rw) (hm : ∀ x ∈ m, ∃ l ∈ L, x ∈ l) : (∀ x c, look (gat (joinC agg bound.toNat) m).1 x = some c → OkC agg bound c) ∧ ∀ r ∈ (gat (joinC agg bound.toNat) m).1, Good r.1 := by
  refine ⟨okC_gat m fun r hr => ?_, fun r hr => ?_⟩
  · obtain ⟨l, hl, hx⟩ := hm r hr
    exact (hL l hl).cell r hx
  · have h1 := mem_look (rise_gat _ m) hr
    obtain ⟨y, hy, e⟩ := (keys_gat (joinC agg bound.toNat) m r.1).1 (by rw [h1]; rfl)
    obtain ⟨l, hl, hx⟩ := hm y hy
    rw [← e]
    exact (hL l hl).key y hx
set_option maxHeartbeats 2000000 in
theorem join_ok (agg bound : Int) (v : Value) (L : List (List Rw)) (w : World) (h : RnS w v L) (hw : wayC agg bound = true) (hL : ∀ l ∈ L, RunOk agg bound l) (hl : L.length ≤ 100) (hlen : (gat (joinC agg bound.toNat) L.flatten).1.length ≤ 1536) :
    Calls Try.prog 19 #[.int .i64 agg, .int .i64 bound, v] w (RowsR w w.heap.size (fin (gat (joinC agg bound.toNat) L.flatten))) := by
  have H1 := hidM (fun W => rway_any agg bound W)
  rw [hw] at H1
  have H3 := hidM (fun W (hW : w.heap.size ≤ W.heap.size) => newG_any agg bound w.heap.size W hW)
  obtain ⟨va, vc, rfl, hsh⟩ := h
  have HL := hidM hL
  have HLEN := hidM hlen
  clear hL hlen
  go_enter Try.func19, Try.ntmps19
  go_wp2_with (go_at_call 30; refine (H1.out _).mono ?_; rintro e W1 ⟨rfl, hb1⟩)
  go_wp2_with (go_at_call 32; refine (H3.out _ hb1.size).mono ?_; rintro e W3 ⟨rfl, hG3, hb3⟩)
  have hb3' := nxt hb1 hb3
  clear hb1 hb3
  generalize W1.heap.size + 1 = gp at hG3 ⊢
  generalize W1.heap.size = mp at hG3
  clear W1 H1 H3
  go_loopw [23] (fun i wr => ∃ k n : Nat, k ≤ L.length ∧ i = .int .i64 k ∧ n ≤ 1536 * k ∧ Gat wr w.heap.size gp mp agg bound (gat (joinC agg bound.toNat) (L.take k).flatten).1 (gat (joinC agg bound.toNat) (L.take k).flatten).2 n ∧ Below w.heap.size w wr) (fun i _ => L.length - (intOf i).toNat)
  case atStart => exact ⟨0, 0, by omega, rfl, by omega, hG3, hb3'⟩
  case round =>
    clear hG3 hb3'
    rename World => w0
    obtain ⟨k, n, hk, rfl, hn, hG, hbel⟩ := hrel
    have hsz := hbel.size
    by_cases hlt : k < L.length
    · obtain ⟨r, hr⟩ := getSome hlt
      rcases hsh with rfl | ⟨b, off, rfl, hb, hat⟩
      · simp at hlt
      have hro := HL.out r (List.mem_of_getElem? hr)
      obtain ⟨u, hu0, hws, hcap⟩ := hat k r hr
      have hu := (hbel.cell (p := ⟨b, off + k, none⟩) hb).trans hu0
      have hrl : r.length ≤ 1536 := (okRows_parts hro.ok).2.1
      have HC := hidM (rcheck_ok agg bound u r w0 (hws.below hbel) (fun x hx => by have := (hro.cell x hx).2.2; omega) hcap hro.ok)
      obtain ⟨ua, uc, rfl, hush⟩ := hws
      have hfs := flat_snoc hr
      have HBEL := hidM hbel
      have HG := hidM hG
      have HUS := hidM hush
      clear hat hbel hG hush hcap
      go_wp2_with (go_at_call 23; refine HC.out.mono ?_; rintro e W1 ⟨rfl, hb1⟩)
      go_loopw [36] (fun i wr => ∃ q : Nat, q ≤ r.length ∧ i = .int .i64 q ∧ Gat wr w.heap.size gp mp agg bound (gat (joinC agg bound.toNat) ((L.take k).flatten ++ r.take q)).1 (gat (joinC agg bound.toNat) ((L.take k).flatten ++ r.take q)).2 (n + q) ∧ Below w.heap.size w wr) (fun i _ => r.length - (intOf i).toNat)
      case atStart => exact ⟨0, by omega, rfl, by rw [List.take_zero, List.append_nil]; exact HG.out.below hb1, nxt HBEL.out hb1⟩
      case round =>
        clear hb1
        rename World => w2
        obtain ⟨q, hq, rfl, hG, hbel⟩ := hrel
        have hsz2 := hbel.size
        by_cases hql : q < r.length
        · obtain ⟨⟨⟨ya, yb⟩, yn, yl⟩, hy⟩ := getSome hql
          have hym := List.mem_of_getElem? hy
          have hoc := hro.cell _ hym
          have hgo := hro.key _ hym
          rcases HUS.out with rfl | ⟨b2, off2, rfl, hb2, hat2⟩
          · simp at hql
          obtain ⟨c0, c1, c2, s1, p1, c3, n1⟩ := (hat2.below hbel hb2) q _ hy
          simp only at c0 c1 c2 c3 n1 hoc hgo
          have hstep : r.take (q + 1) = r.take q ++ [((ya, yb), (yn, yl))] := by rw [List.take_add_one, hy]; rfl
          obtain ⟨Wa, hWa⟩ : ∃ Wa : World, Wa = w2.alloc (.cells #[.int .i64 ya, .string yb, .int .i64 yn, .slice s1 yl.length p1] 67) := ⟨_, rfl⟩
          have hba : Below w2.heap.size w2 Wa := by rw [hWa]; exact (Below.refl _ _).alloc (Nat.le_refl _) _
          have B4 : Blk4 Wa w2.heap.size (.int .i64 ya) (.string yb) (.int .i64 yn) (.slice s1 yl.length p1) := by rw [hWa]; exact Blk4.new w2 _ _ _ _
          obtain ⟨a0, a1, a2, a3, -⟩ := B4.cells
          have HA := hidM hWa.symm
          obtain ⟨gk1, gk2⟩ := gatOk HL.out ((L.take k).flatten ++ r.take q) (fun x hx => by
            rcases List.mem_append.1 hx with hx | hx
            · exact flat_mem hx
            · exact ⟨r, List.mem_of_getElem? hr, List.mem_of_mem_take hx⟩)
          have HAD := hidM (add_any gp mp w.heap.size (n + q) agg bound _ ((ya, yb), (yn, yl)) _ Wa (hG.below hba) (Nat.le_trans hsz2 hba.size) (by omega) hgo ⟨s1, p1, rfl, n1.below hba⟩ hoc.2.2 (rise_gat _ _) hoc.1 hoc.2.1 gk1)
          rw [← gat_snoc, List.append_assoc, ← hstep] at HAD
          have HBW := hidM (hbel.trans (hba.mono hsz2))
          clear hWa hba B4 hG hbel hat2 n1 gk1 gk2 hoc hgo hstep hy hym
          go_wp2_with (go_at_call 34; rw [HA.out]; refine HAD.out.mono ?_; rintro e W7 ⟨rfl, hG7, hb7⟩)
          go_roundw
          case rel => exact ⟨q + 1, by omega, by go_num, hG7, HBW.out.trans hb7⟩
          case measure => simp [intOf]; omega
        · have hql' : r.length ≤ q := by omega
          rw [List.take_of_length_le hql', ← hfs] at hG
          obtain ⟨D, hom, hDs⟩ := hG.len_run
          have hle : (gat (joinC agg bound.toNat) (L.take (k + 1)).flatten).1.length ≤ 1536 := by
            obtain ⟨m, hm⟩ := flat_take L (k + 1)
            have := len_mono (joinC agg bound.toNat) (L.take (k + 1)).flatten m
            rw [← hm] at this
            have := HLEN.out
            omega
          obtain ⟨z, hz⟩ : ∃ z, z = (gat (joinC agg bound.toNat) (L.take (k + 1)).flatten).1.length := ⟨_, rfl⟩
          rw [← hz] at hDs hle
          have hzi : ¬ ((1536 : Int) < (z : Int)) := by omega
          obtain ⟨x0, x1, x2, x3, x4⟩ := hG.cells
          have HG2 := hidM hG
          have HB2 := hidM hbel
          have HOM := hidM hom
          have HDS := hidM hDs
          clear hG hbel hom hDs hz
          go_wp2_with (at_len; refine wpList_len_own _ rfl _ 71 rfl 52 60 Try.underlying71 RC mp _ D rfl HOM.out ?_; rw [HDS.out])
          go_roundw
          case rel => exact ⟨k + 1, n + q, by omega, by go_num, by omega, HG2.out, HB2.out⟩
          case measure => simp [intOf]; omega
    · have hlt' : L.length ≤ k := by omega
      rw [List.take_of_length_le hlt'] at hG
      obtain ⟨gk1, gk2⟩ := gatOk HL.out L.flatten (fun x hx => List.mem_flatten.1 hx)
      have HR := hidM (rows_any gp mp w.heap.size n agg bound _ w0 hG hsz (rise_gat _ _) gk2 (by have := HLEN.out; omega))
      have HBEL := hidM hbel
      clear hG hbel gk1 gk2
      go_wp2_with (go_at_call 35; refine HR.out.mono ?_; rintro e w' ⟨⟨v', rfl, ho⟩, hb'⟩)
      go_ret2
      exact ⟨⟨_, rfl, ho⟩, HBEL.out.trans hb'⟩
end Go.Proofs.Yticpaemmdfmbfaa
namespace Go.Proofs.Yticpaemmdfmbfaa
open Go.RowKit
set_option linter.unusedVariables false
set_option maxRecDepth 100000

theorem within_any (i n : Nat) (w : World) (hi : i ≤ 1000000) (hn : 1 ≤ n) (hn2 : n ≤ 1000000) :
    Calls Try.prog 26 #[.int .i64 i, .int .i64 n] w fun e w' => e = .returned (.int .i64 ((i % n : Nat) : Int)) ∧ w' = w := by
  have h1 : IntKind.u64.wrap (i : Int) = (i : Int) := by rw [IntKind.wrap_u64]; omega
  have h2 : IntKind.u64.wrap (n : Int) = (n : Int) := by rw [IntKind.wrap_u64]; omega
  have h3 : ¬ ((n : Int) = 0) := by omega
  have hlt : i % n < n := Nat.mod_lt _ (by omega)
  have h4 : (i : Int).tmod (n : Int) = ((i % n : Nat) : Int) := by rw [Int.tmod_eq_emod_of_nonneg (by omega)]; rfl
  have h5 : IntKind.i64.wrap ((i % n : Nat) : Int) = ((i % n : Nat) : Int) := by rw [IntKind.wrap_i64]; omega
  have h6 : IntKind.u64.wrap ((i % n : Nat) : Int) = ((i % n : Nat) : Int) := by rw [IntKind.wrap_u64]; omega
  go_enter Try.func26, Try.ntmps26
  go_wp2
  go_ret
  exact ⟨rfl, rfl⟩
/-- Behind a place. -/
theorem RS.drop {w : World} {a a' : Option Addr} {cap : Nat} {l : List Rc} (h : RS w (.slice a l.length cap) l) (k : Nat) (hk : k ≤ l.length) (cap' : Nat) (ha : k = l.length ∨ ∃ b off, a = some ⟨b, off, none⟩ ∧ a' = some ⟨b, off + k * 3, none⟩) : RS w (.slice a' (l.length - k) cap') (l.drop k) := by
  obtain ⟨a0, c', e, h⟩ := h
  injection e with e1 e2 e3
  subst e1
  refine ⟨a', cap', by simp, ?_⟩
  rcases ha with ha | ⟨b, off, rfl, rfl⟩
  · exact .inl (List.drop_eq_nil_of_le (by omega))
  · rcases h with rfl | ⟨b', off', e, hb, hat⟩
    · exact .inl (by simp)
    · injection e with e
      injection e with e1 e2
      subst e1 e2
      refine .inr ⟨b, off + k * 3, rfl, hb, fun i r hr => ?_⟩
      rw [List.getElem?_drop] at hr
      have := hat _ _ hr
      rw [show off + (k + i) * 3 = off + k * 3 + i * 3 by omega] at this
      exact this
theorem FineR.run {agg bound : Int} {l : List Rw} (h : FineR agg bound l) : RunOk agg bound l := ⟨h.ok, h.cell, h.key⟩
theorem run_nil {agg bound : Int} (hw : wayC agg bound = true) : RunOk agg bound [] := ⟨by unfold okRows; rw [hw]; simp [RiseK], by simp, by simp⟩
/-- Two runs in a block of their own. -/
theorem rns_two {w W : World} {va vb : Value} {A B : List Rw} (ha : WS w va A) (hb : WS w vb B) (ca : CapOk va) (cb : CapOk vb) (hbel : Below w.heap.size w W) (hblk : W.heap[w.heap.size]? = some (.cells #[va, vb] 28 (0, 0))) : RnS W (.slice (some ⟨w.heap.size, 0, none⟩) 2 2) [A, B] := by
  obtain ⟨c0, c1⟩ := blk2 hblk
  refine ⟨_, 2, rfl, .inr ⟨w.heap.size, 0, rfl, (Array.getElem?_eq_some_iff.1 hblk).1, fun i l hl => ?_⟩⟩
  match i, hl with
  | 0, hl => simp at hl; subst hl; exact ⟨va, c0, ha.below hbel, ca⟩
  | 1, hl => simp at hl; subst hl; exact ⟨vb, c1, hb.below hbel, cb⟩
theorem rns_three {w W : World} {va vb vc : Value} {A B C : List Rw} (ha : WS w va A) (hb : WS w vb B) (hc : WS w vc C) (ca : CapOk va) (cb : CapOk vb) (cc : CapOk vc) (hbel : Below w.heap.size w W) (hblk : W.heap[w.heap.size]? = some (.cells #[va, vb, vc] 28 (0, 0))) : RnS W (.slice (some ⟨w.heap.size, 0, none⟩) 3 3) [A, B, C] := by
  obtain ⟨c0, c1, c2⟩ := blk3 hblk
  refine ⟨_, 3, rfl, .inr ⟨w.heap.size, 0, rfl, (Array.getElem?_eq_some_iff.1 hblk).1, fun i l hl => ?_⟩⟩
  match i, hl with
  | 0, hl => simp at hl; subst hl; exact ⟨va, c0, ha.below hbel, ca⟩
  | 1, hl => simp at hl; subst hl; exact ⟨vb, c1, hb.below hbel, cb⟩
  | 2, hl => simp at hl; subst hl; exact ⟨vc, c2, hc.below hbel, cc⟩
end Go.Proofs.Yticpaemmdfmbfaa
namespace Go.Proofs.Yticpaemmdfmbfaa
open Go.RowKit
set_option linter.unusedVariables false
set_option maxRecDepth 100000

theorem fin_fold1 {agg : Int} {bd : Nat} {l : List Rc} {R : List Rw × Int} (h : R = fin (foldR agg bd l)) (h0 : R.2 = 0) : R.1 = (foldR agg bd l).1 ∧ (foldR agg bd l).2 = 0 := by
  unfold fin at h
  by_cases h3 : (foldR agg bd l).2 = 0
  · rw [if_pos h3] at h; rw [h]; exact ⟨rfl, h3⟩
  · rw [if_neg h3] at h; rw [h] at h0; exact absurd h0 h3
theorem fin_fold2 {agg : Int} {bd : Nat} {l : List Rc} {R : List Rw × Int} (h : R = fin (foldR agg bd l)) (h0 : R.2 ≠ 0) : (foldR agg bd l).2 ≠ 0 := fun h3 => by
  unfold fin at h
  rw [if_pos h3] at h
  rw [h] at h0
  exact h0 h3
set_option maxHeartbeats 8000000 in
theorem lawwp (ag bo : Int) (vl vv : Value) (x : ByteArray) (L : List (List Rw)) (l : List Rc) (w : World) (h : In10 w ag bo vl vv x L l) :
    Calls Try.prog 5 #[askV ag bo vl vv x] w (BoolR w true) := by
  have hb0 := (Below.refl w.heap.size w).alloc (Nat.le_refl _) (askO ag bo vl vv x)
  have hA := BlkA.new w ag bo vl vv x
  obtain ⟨W0, hW0⟩ : ∃ W0 : World, W0 = w.alloc (askO ag bo vl vv x) := ⟨_, rfl⟩
  rw [← hW0] at hb0 hA
  have h0 := h.below hb0
  have H1 := hidM (heavy_any ag bo vl vv x L l W0 h0)
  have HR := hidM (show ∀ W, Below W0.heap.size W0 W → RS W vv l from fun W hW => h0.hl.1.below hW)
  obtain ⟨va, vc, rfl, hvc, hvc2⟩ := h.hcap
  have HA := hidM (show ∀ W, Below W0.heap.size W0 W → W.cell? ⟨w.heap.size, 0, none⟩ = some (.int .i64 ag) ∧ W.cell? ⟨w.heap.size, 1, none⟩ = some (.int .i64 bo) ∧ W.cell? ⟨w.heap.size, 2, none⟩ = some vl ∧ W.cell? ⟨w.heap.size, 3, none⟩ = some (.slice va l.length vc) ∧ W.cell? ⟨w.heap.size, 4, none⟩ = some (.string x) from fun W hW => (hA.below hW).cells)
  obtain ⟨a0, a1, a2, a3, a4⟩ := HA.out W0 (Below.refl _ _)
  have hwf := hidM h.hl.2.2
  have HW := hidM hW0.symm
  have HB := hidM hb0
  have HN := hidM num_any
  have HK := hidM wakes_any
  have HST := hidM (show ∀ (W : World) (o : Obj), Below W.heap.size W (W.alloc o) from fun W o => (Below.refl _ _).alloc (Nat.le_refl _) _)
  clear h h0 hb0 hA hW0
  go_enter Try.func5, Try.ntmps5
  go_wp2_with fail
  rw [HW.out]
  refine H1.out.mono ?_
  rintro e W1 ⟨⟨hv, rfl, hsm⟩, hb1⟩
  cases hv with
  | true =>
    go_wp2
    go_ret
    exact ⟨rfl, nxt HB.out hb1⟩
  | false =>
    obtain ⟨-, -, hls, hxs⟩ := hsm rfl
    obtain ⟨b0, b1, b2, b3, b4⟩ := HA.out W1 hb1
    have H2 := hidM (rrecs_any _ l W1 (HR.out W1 hb1) (by omega))
    cases hko : keysOk l with
    | false =>
      rw [hko] at H2
      go_wp2_with (go_at_call 25; refine H2.out.mono ?_; rintro e W2 ⟨rfl, hb2⟩)
      go_ret
      exact ⟨rfl, nxt HB.out (nxt hb1 hb2)⟩
    | true =>
      rw [hko] at H2
      by_cases hbig : 300 < l.length
      · have hbig' : (300 : Int) < (l.length : Int) := by omega
        go_wp2_with (go_at_call 25; refine H2.out.mono ?_; rintro e W2 ⟨rfl, hb2⟩; have hb2' := nxt hb1 hb2; obtain ⟨c0, c1, c2, c3, c4⟩ := HA.out W2 hb2')
        go_ret
        exact ⟨rfl, nxt HB.out hb2'⟩
      · have hbig' : ¬ (300 : Int) < (l.length : Int) := by omega
        have hlen : l.length ≤ 300 := by omega
        have HKO := hidM hko
        clear hsm hko
        go_wp2_with (go_at_call 25; refine H2.out.mono ?_; rintro e W2 ⟨rfl, hb2⟩; have hb2' := nxt hb1 hb2; obtain ⟨c0, c1, c2, c3, c4⟩ := HA.out W2 hb2')
        have HB2 := hidM hb2'
        clear hb2' hb2 hb1 b0 b1 b2 b3 b4 c0 c1 c2 c3 c4 a0 a1 a2 a3 a4
        go_loopw [3] (fun i wr => ∃ a : Int, i = .int .i64 a ∧ 1 ≤ a ∧ a ≤ 7 ∧ Below W0.heap.size W0 wr) (fun i _ => (8 - intOf i).toNat)
        case atStart => exact ⟨1, rfl, by omega, by omega, HB2.out⟩
        case round =>
          rename World => w0
          obtain ⟨agg, rfl, g1, g7, hbr⟩ := hrel
          have HBR := hidM hbr
          by_cases hend : agg ≤ 6
          · have hw := bnd_way x.size 7 g1 hend (by decide) (by decide)
            obtain ⟨bd, hbd⟩ : ∃ bd, bndOf agg x.size 7 = bd := ⟨_, rfl⟩
            have HBD := hidM hbd
            rw [hbd] at hw
            have HWAY := hidM hw
            have hxi : (x.size : Int) ≤ 6000 := by omega
            obtain ⟨r0, r1, r2, r3, r4⟩ := HA.out w0 hbr
            clear hbd hw hbr
            go_upto_if 35 with fail
            go_cut [4] from 36 to 40 (fun s4 wx => s4 = .int .i64 bd ∧ wx = w0)
            case first =>
              by_cases e6 : agg = 6
              · subst e6
                go_wp2
                go_meet
                exact ⟨by rw [← HBD.out]; rfl, rfl⟩
              · have e6' : (agg == 6) = false := by simpa using e6
                go_wp2
                go_meet
                exact ⟨by rw [← HBD.out]; unfold bndOf; rw [if_neg e6], rfl⟩
            case rest =>
              obtain ⟨rfl, hwc⟩ := hcut
              obtain rfl := hwc.symm
              -- ROUND
              obtain ⟨at', hat'⟩ : ∃ k, k = x.size % (l.length + 1) := ⟨_, rfl⟩
              have hatl : at' ≤ l.length := by have := Nat.mod_lt x.size (show 0 < l.length + 1 by omega); omega
              have HWI := hidM (fun W => within_any x.size (l.length + 1) W (by omega) (by omega) (by omega))
              rw [← hat'] at HWI
              have e1 : ((l.length + 1 : Nat) : Int) = (l.length : Int) + 1 := by omega
              rw [e1] at HWI
              have hati : (at' : Int) ≤ (l.length : Int) := by omega
              have hatv : (at' : Int) ≤ (vc : Int) := by omega
              have hatv' : at' ≤ vc := by omega
              have hk1 := keysOk_take HKO.out at'
              have hk2 : keysOk (l.drop at') = true := keysOk_mem.2 fun y hy => keysOk_mem.1 HKO.out y (List.mem_of_mem_drop hy)
              have hwf1 := hwf.out.take at'
              have hwf2 : Wf (l.drop at') := fun y hy => hwf.out y (List.mem_of_mem_drop hy)
              have hl1 : (l.take at').length ≤ 1536 := by simp; omega
              have hl2 : (l.drop at').length ≤ 1536 := by simp; omega
              obtain ⟨RA, hRA⟩ : ∃ R, R = fin (foldR agg bd.toNat l) := ⟨_, rfl⟩
              obtain ⟨R1, hR1⟩ : ∃ R, R = fin (foldR agg bd.toNat (l.take at')) := ⟨_, rfl⟩
              obtain ⟨R2, hR2⟩ : ∃ R, R = fin (foldR agg bd.toNat (l.drop at')) := ⟨_, rfl⟩
              have Ha := hidM (fold_any agg bd _ l w0 (HR.out w0 HBR.out) hwf.out (by omega))
              rw [foldRes_ok HWAY.out HKO.out (by omega), ← hRA] at Ha
              have HBB := hidM (fun W (hW : Below W0.heap.size W0 W) => fold_any agg bd _ (l.take at') W (RS.take (HR.out W hW) at' hatl vc) hwf1 (by omega))
              rw [foldRes_ok HWAY.out hk1 hl1, ← hR1] at HBB
              have HCC := hidM (fun (W : World) (a' : Option Addr) (c' : Nat) (hW : Below W0.heap.size W0 W) (hc : at' = l.length ∨ ∃ b off, va = some ⟨b, off, none⟩ ∧ a' = some ⟨b, off + at' * 3, none⟩) => fold_any agg bd _ (l.drop at') W (RS.drop (HR.out W hW) at' hatl c' hc) hwf2 (by omega))
              rw [foldRes_ok HWAY.out hk2 hl2, ← hR2] at HCC
              have HZZ := hidM (fun (W : World) (a' : Option Addr) (c' : Nat) (he : at' = l.length) => fold_any agg bd (.slice a' 0 c') (l.drop at') W (by rw [List.drop_eq_nil_of_le (by omega)]; exact ⟨a', c', rfl, .inl rfl⟩) hwf2 (by omega))
              rw [foldRes_ok HWAY.out hk2 hl2, ← hR2] at HZZ
              have HRA := hidM hRA
              have HR1 := hidM hR1
              have HR2 := hidM hR2
              have HF1 := hidM (fine_fold HWAY.out hk1 hwf1 hl1)
              have HF2 := hidM (fine_fold HWAY.out hk2 hwf2 hl2)
              have HSZ := hidM (show (foldR agg bd.toNat (l.take at')).1.length + (foldR agg bd.toNat (l.drop at')).1.length ≤ 300 by
                have q1 := len_fold agg bd.toNat (l.take at')
                have q2 := len_fold agg bd.toNat (l.drop at')
                simp at q1 q2
                omega)
              have HLEN := hidM hlen
              clear hat' e1 hk1 hk2 hwf1 hwf2 hl1 hl2 hRA hR1 hR2
              have HB1 := hidM (show agg = 6 → 1 ≤ bd.toNat from fun e => by
                have := (wayC_bd HWAY.out).2.2.2.2 e
                omega)
              have HFL := hidM (show RA.1.length ≤ 100000 by have := fin_len agg bd.toNat l; rw [← HRA.out] at this; have := HLEN.out; omega)
              have HFS := hidM (show ∀ r ∈ RA.1, r.2.2.length ≤ 100000 by rw [HRA.out]; exact fin_sets HWAY.out hwf.out)
              have hva : (va = none ∧ l.length = 0) ∨ (∃ ad, va = some ad ∧ l.length = 0) ∨ ∃ b off, va = some ⟨b, off, none⟩ := by
                obtain ⟨a9, c9, e9, h9⟩ := HR.out w0 HBR.out
                injection e9 with e91 e92 e93
                subst e91
                rcases h9 with h9 | ⟨b9, off9, h9, -⟩
                · have : l.length = 0 := by rw [h9]; rfl
                  cases va with
                  | none => exact .inl ⟨rfl, this⟩
                  | some ad => exact .inr (.inl ⟨ad, rfl, this⟩)
                · exact .inr (.inr ⟨b9, off9, h9⟩)
              rcases hva with ⟨rfl, hl0⟩ | ⟨ad, rfl, hl0⟩ | ⟨b9, off9, rfl⟩
              · have HEQ := hidM (show at' = l.length by omega)
                clear hl0
                by_cases hz1 : R1.2 = 0
                · by_cases hz2 : R2.2 = 0
                  · obtain ⟨p1, p2⟩ := fin_fold1 HR1.out hz1
                    obtain ⟨p3, p4⟩ := fin_fold1 HR2.out hz2
                    obtain ⟨p5, p6⟩ := parts_ok agg bd.toNat (HB1.out) (l.take at') (l.drop at') p2 p4
                    rw [List.take_append_drop, ← HRA.out, ← p1, ← p3] at p5 p6
                    have hr1 : RunOk agg bd R1.1 := by rw [p1]; exact HF1.out.run
                    have hr2 : RunOk agg bd R2.1 := by rw [p3]; exact HF2.out.run
                    have hsz : R1.1.length + R2.1.length ≤ 300 := by rw [p1, p3]; exact HSZ.out
                    have HJ1 := hidM (show ∀ (W : World) (u1 u2 : Value), Below W0.heap.size W0 W → WS W u1 R1.1 → WS W u2 R2.1 → CapOk u1 → CapOk u2 → Calls Try.prog 19 #[.int .i64 agg, .int .i64 bd, .slice (some ⟨W.heap.size, 0, none⟩) 2 2] (W.alloc (.cells #[u1, u2] 28)) (RowsR (W.alloc (.cells #[u1, u2] 28)) (W.alloc (.cells #[u1, u2] 28)).heap.size RA) from fun W u1 u2 hW h1 h2 c1 c2 => by
                      have := join_ok agg bd _ [R1.1, R2.1] (W.alloc (.cells #[u1, u2] 28)) (rns_two h1 h2 c1 c2 (HST.out _ _) (heap_alloc_new W _)) HWAY.out (fun q hq => by simp at hq; rcases hq with rfl | rfl; exact hr1; exact hr2) (by simp) (by
                        have := len_gat (joinC agg bd.toNat) [R1.1, R2.1].flatten
                        simp at this
                        simp
                        omega)
                      rw [show [R1.1, R2.1].flatten = R1.1 ++ R2.1 by simp, p5] at this
                      exact this)
                    have HJ2 := hidM (show ∀ (W : World) (u1 u2 : Value), Below W0.heap.size W0 W → WS W u1 R2.1 → WS W u2 R1.1 → CapOk u1 → CapOk u2 → Calls Try.prog 19 #[.int .i64 agg, .int .i64 bd, .slice (some ⟨W.heap.size, 0, none⟩) 3 3] (W.alloc (.cells #[u1, .slice none 0 0, u2] 28)) (RowsR (W.alloc (.cells #[u1, .slice none 0 0, u2] 28)) (W.alloc (.cells #[u1, .slice none 0 0, u2] 28)).heap.size RA) from fun W u1 u2 hW h1 h2 c1 c2 => by
                      have := join_ok agg bd _ [R2.1, [], R1.1] (W.alloc (.cells #[u1, .slice none 0 0, u2] 28)) (rns_three h1 ⟨none, 0, rfl, .inl rfl⟩ h2 c1 (Nat.le_refl 0) c2 (HST.out _ _) (heap_alloc_new W _)) HWAY.out (fun q hq => by simp at hq; rcases hq with rfl | rfl | rfl; exact hr2; exact run_nil HWAY.out; exact hr1) (by simp) (by
                        have := len_gat (joinC agg bd.toNat) [R2.1, [], R1.1].flatten
                        simp at this
                        simp
                        omega)
                      rw [show [R2.1, [], R1.1].flatten = R2.1 ++ R1.1 by simp, p6] at this
                      exact this)
                    clear p1 p2 p3 p4 p5 p6 hr1 hr2 hsz HR1 HR2 HRA
                    go_wp2_with (first | (go_at_call 11; refine Ha.out.mono ?_; clear Ha; rintro e W3 ⟨⟨v3, rfl, ho3⟩, hb3⟩; have hb3' := nxt HBR.out hb3; obtain ⟨d0, d1, d2, d3, d4⟩ := HA.out W3 hb3'; have HO3 := hidM ho3; clear ho3; have Hb := hidM (HBB.out W3 hb3')) | (go_at_call 26; refine (HWI.out _).mono ?_; rintro e w' ⟨rfl, hww⟩; obtain rfl := hww.symm) | (go_at_call 11; refine Hb.out.mono ?_; clear Hb; rintro e W4 ⟨⟨v4, rfl, ho4⟩, hb4⟩; have hb4' := nxt hb3' hb4; obtain ⟨e0, e1, e2, e3, e4⟩ := HA.out W4 hb4'; obtain ⟨x4, y4, rfl, -⟩ := ho4.ws; have HO4 := hidM ho4; clear ho4; have Hc := hidM (fun a' c' hc => HCC.out W4 a' c' hb4' hc); have Hz := hidM (fun a' c' he => HZZ.out W4 a' c' he)) | (go_at_call 11; refine (Hc.out _ _ (.inl HEQ.out)).mono ?_; clear Hc Hz; rintro e W5 ⟨⟨v5, rfl, ho5⟩, hb5⟩; have hb5' := nxt hb4' hb5; obtain ⟨f0, f1, f2, f3, f4⟩ := HA.out W5 hb5'; obtain ⟨x5, y5, rfl, -⟩ := ho5.ws; have HO5 := hidM ho5; clear ho5; have HWS := hidM (And.intro ((HO3.out.ws.below hb4).below hb5) (And.intro (HO4.out.ws.below hb5) HO5.out.ws)); have Hj := hidM (HJ1.out W5 (.slice x4 R1.1.length y4) (.slice x5 R2.1.length y5) hb5' HWS.out.2.1 HWS.out.2.2 HO4.out.cap HO5.out.cap)) | (go_at_call 14; refine (HN.out _ _).mono ?_; rintro e w' ⟨rfl, hww⟩; obtain rfl := hww.symm) | (go_at_call 19; refine Hj.out.mono ?_; clear Hj; rintro e W6 ⟨⟨v6, rfl, ho6⟩, hb6⟩; have hb6' := nxt (nxt hb5' (HST.out W5 (.cells #[.slice x4 R1.1.length y4, .slice x5 R2.1.length y5] 28))) hb6; obtain ⟨g0, g1, g2, g3, g4⟩ := HA.out W6 hb6'; have HO6 := hidM ho6; clear ho6; have hb56 := nxt (HST.out W5 (.cells #[.slice x4 R1.1.length y4, .slice x5 R2.1.length y5] 28)) hb6; have Hk := hidM (HJ2.out W6 (.slice x5 R2.1.length y5) (.slice x4 R1.1.length y4) hb6' (HWS.out.2.2.below hb56) (HWS.out.2.1.below hb56) HO5.out.cap HO4.out.cap)) | (go_at_call 19; refine Hk.out.mono ?_; clear Hk; rintro e W7 ⟨⟨v7, rfl, ho7⟩, hb7⟩; have hb67 := nxt (HST.out W6 (.cells #[.slice x5 R2.1.length y5, .slice none 0 0, .slice x4 R1.1.length y4] 28)) hb7; have hb7' := nxt hb6' hb67; have HO7 := hidM ho7; clear ho7; have Hq := hidM (eqrows_any v6 v3 RA.1 W7 (HO6.out.ws.below hb67) (HWS.out.1.below (nxt hb56 hb67)) HFL.out HFS.out)) | (go_at_call 15; refine Hq.out.mono ?_; clear Hq; rintro e W8 ⟨rfl, hb8⟩; have hb8' := nxt hb7' hb8; have Hr := hidM (eqrows_any v7 v3 RA.1 W8 (HO7.out.ws.below hb8) ((HWS.out.1.below (nxt hb56 hb67)).below hb8) HFL.out HFS.out)) | (go_at_call 15; refine Hr.out.mono ?_; clear Hr; rintro e W9 ⟨rfl, hb9⟩; have hb9' := nxt hb8' hb9))
                    go_roundw
                    case rel => exact ⟨agg + 1, by go_num, by omega, by omega, hb9'⟩
                    case measure => simp [intOf]; omega
                  · have hz2' : (R2.2 != 0) = true := by simp [hz2]
                    have hRA := hidM (show RA.2 = 11 by
                      have q := parts_bad agg bd.toNat HB1.out (l.take at') (l.drop at') (.inr (fin_fold2 HR2.out hz2))
                      rw [List.take_append_drop] at q
                      rw [HRA.out, fin_bad (by rw [q]; decide)]
                      exact q)
                    have hRA' := hRA.out
                    clear HR1 HR2 HRA
                    go_wp2_with (first | (go_at_call 11; refine Ha.out.mono ?_; clear Ha; rintro e W3 ⟨⟨v3, rfl, ho3⟩, hb3⟩; have hb3' := nxt HBR.out hb3; obtain ⟨d0, d1, d2, d3, d4⟩ := HA.out W3 hb3'; have HO3 := hidM ho3; clear ho3; have Hb := hidM (HBB.out W3 hb3')) | (go_at_call 26; refine (HWI.out _).mono ?_; rintro e w' ⟨rfl, hww⟩; obtain rfl := hww.symm) | (go_at_call 11; refine Hb.out.mono ?_; clear Hb; rintro e W4 ⟨⟨v4, rfl, ho4⟩, hb4⟩; have hb4' := nxt hb3' hb4; obtain ⟨e0, e1, e2, e3, e4⟩ := HA.out W4 hb4'; obtain ⟨x4, y4, rfl, -⟩ := ho4.ws; have HO4 := hidM ho4; clear ho4; have Hc := hidM (fun a' c' hc => HCC.out W4 a' c' hb4' hc); have Hz := hidM (fun a' c' he => HZZ.out W4 a' c' he)) | (go_at_call 11; refine (Hc.out _ _ (.inl HEQ.out)).mono ?_; clear Hc Hz; rintro e W5 ⟨⟨v5, rfl, ho5⟩, hb5⟩; have hb5' := nxt hb4' hb5; obtain ⟨f0, f1, f2, f3, f4⟩ := HA.out W5 hb5'; obtain ⟨x5, y5, rfl, -⟩ := ho5.ws; have HO5 := hidM ho5; clear ho5) | (go_at_call 14; refine (HN.out _ _).mono ?_; rintro e w' ⟨rfl, hww⟩; obtain rfl := hww.symm))
                    go_roundw
                    case rel => exact ⟨agg + 1, by go_num, by omega, by omega, hb5'⟩
                    case measure => simp [intOf]; omega
                · have hz1' : (R1.2 != 0) = true := by simp [hz1]
                  have hRA := hidM (show RA.2 = 11 by
                    have q := parts_bad agg bd.toNat HB1.out (l.take at') (l.drop at') (.inl (fin_fold2 HR1.out hz1))
                    rw [List.take_append_drop] at q
                    rw [HRA.out, fin_bad (by rw [q]; decide)]
                    exact q)
                  have hRA' := hRA.out
                  clear HR1 HR2 HRA
                  go_wp2_with (first | (go_at_call 11; refine Ha.out.mono ?_; clear Ha; rintro e W3 ⟨⟨v3, rfl, ho3⟩, hb3⟩; have hb3' := nxt HBR.out hb3; obtain ⟨d0, d1, d2, d3, d4⟩ := HA.out W3 hb3'; have HO3 := hidM ho3; clear ho3; have Hb := hidM (HBB.out W3 hb3')) | (go_at_call 26; refine (HWI.out _).mono ?_; rintro e w' ⟨rfl, hww⟩; obtain rfl := hww.symm) | (go_at_call 11; refine Hb.out.mono ?_; clear Hb; rintro e W4 ⟨⟨v4, rfl, ho4⟩, hb4⟩; have hb4' := nxt hb3' hb4; obtain ⟨e0, e1, e2, e3, e4⟩ := HA.out W4 hb4'; obtain ⟨x4, y4, rfl, -⟩ := ho4.ws; have HO4 := hidM ho4; clear ho4; have Hc := hidM (fun a' c' hc => HCC.out W4 a' c' hb4' hc); have Hz := hidM (fun a' c' he => HZZ.out W4 a' c' he)) | (go_at_call 11; refine (Hc.out _ _ (.inl HEQ.out)).mono ?_; clear Hc Hz; rintro e W5 ⟨⟨v5, rfl, ho5⟩, hb5⟩; have hb5' := nxt hb4' hb5; obtain ⟨f0, f1, f2, f3, f4⟩ := HA.out W5 hb5'; obtain ⟨x5, y5, rfl, -⟩ := ho5.ws; have HO5 := hidM ho5; clear ho5) | (go_at_call 14; refine (HN.out _ _).mono ?_; rintro e w' ⟨rfl, hww⟩; obtain rfl := hww.symm))
                  go_roundw
                  case rel => exact ⟨agg + 1, by go_num, by omega, by omega, hb5'⟩
                  case measure => simp [intOf]; omega
              · by_cases hcv : at' = vc
                · obtain rfl : at' = l.length := by omega
                  obtain rfl : vc = l.length := by omega
                  clear hl0
                  by_cases hz1 : R1.2 = 0
                  · by_cases hz2 : R2.2 = 0
                    · obtain ⟨p1, p2⟩ := fin_fold1 HR1.out hz1
                      obtain ⟨p3, p4⟩ := fin_fold1 HR2.out hz2
                      obtain ⟨p5, p6⟩ := parts_ok agg bd.toNat (HB1.out) (l.take l.length) (l.drop l.length) p2 p4
                      rw [List.take_append_drop, ← HRA.out, ← p1, ← p3] at p5 p6
                      have hr1 : RunOk agg bd R1.1 := by rw [p1]; exact HF1.out.run
                      have hr2 : RunOk agg bd R2.1 := by rw [p3]; exact HF2.out.run
                      have hsz : R1.1.length + R2.1.length ≤ 300 := by rw [p1, p3]; exact HSZ.out
                      have HJ1 := hidM (show ∀ (W : World) (u1 u2 : Value), Below W0.heap.size W0 W → WS W u1 R1.1 → WS W u2 R2.1 → CapOk u1 → CapOk u2 → Calls Try.prog 19 #[.int .i64 agg, .int .i64 bd, .slice (some ⟨W.heap.size, 0, none⟩) 2 2] (W.alloc (.cells #[u1, u2] 28)) (RowsR (W.alloc (.cells #[u1, u2] 28)) (W.alloc (.cells #[u1, u2] 28)).heap.size RA) from fun W u1 u2 hW h1 h2 c1 c2 => by
                        have := join_ok agg bd _ [R1.1, R2.1] (W.alloc (.cells #[u1, u2] 28)) (rns_two h1 h2 c1 c2 (HST.out _ _) (heap_alloc_new W _)) HWAY.out (fun q hq => by simp at hq; rcases hq with rfl | rfl; exact hr1; exact hr2) (by simp) (by
                          have := len_gat (joinC agg bd.toNat) [R1.1, R2.1].flatten
                          simp at this
                          simp
                          omega)
                        rw [show [R1.1, R2.1].flatten = R1.1 ++ R2.1 by simp, p5] at this
                        exact this)
                      have HJ2 := hidM (show ∀ (W : World) (u1 u2 : Value), Below W0.heap.size W0 W → WS W u1 R2.1 → WS W u2 R1.1 → CapOk u1 → CapOk u2 → Calls Try.prog 19 #[.int .i64 agg, .int .i64 bd, .slice (some ⟨W.heap.size, 0, none⟩) 3 3] (W.alloc (.cells #[u1, .slice none 0 0, u2] 28)) (RowsR (W.alloc (.cells #[u1, .slice none 0 0, u2] 28)) (W.alloc (.cells #[u1, .slice none 0 0, u2] 28)).heap.size RA) from fun W u1 u2 hW h1 h2 c1 c2 => by
                        have := join_ok agg bd _ [R2.1, [], R1.1] (W.alloc (.cells #[u1, .slice none 0 0, u2] 28)) (rns_three h1 ⟨none, 0, rfl, .inl rfl⟩ h2 c1 (Nat.le_refl 0) c2 (HST.out _ _) (heap_alloc_new W _)) HWAY.out (fun q hq => by simp at hq; rcases hq with rfl | rfl | rfl; exact hr2; exact run_nil HWAY.out; exact hr1) (by simp) (by
                          have := len_gat (joinC agg bd.toNat) [R2.1, [], R1.1].flatten
                          simp at this
                          simp
                          omega)
                        rw [show [R2.1, [], R1.1].flatten = R2.1 ++ R1.1 by simp, p6] at this
                        exact this)
                      clear p1 p2 p3 p4 p5 p6 hr1 hr2 hsz HR1 HR2 HRA
                      go_wp2_with (first | (go_at_call 11; refine Ha.out.mono ?_; clear Ha; rintro e W3 ⟨⟨v3, rfl, ho3⟩, hb3⟩; have hb3' := nxt HBR.out hb3; obtain ⟨d0, d1, d2, d3, d4⟩ := HA.out W3 hb3'; have HO3 := hidM ho3; clear ho3; have Hb := hidM (HBB.out W3 hb3')) | (go_at_call 26; refine (HWI.out _).mono ?_; rintro e w' ⟨rfl, hww⟩; obtain rfl := hww.symm) | (go_at_call 11; refine Hb.out.mono ?_; clear Hb; rintro e W4 ⟨⟨v4, rfl, ho4⟩, hb4⟩; have hb4' := nxt hb3' hb4; obtain ⟨e0, e1, e2, e3, e4⟩ := HA.out W4 hb4'; obtain ⟨x4, y4, rfl, -⟩ := ho4.ws; have HO4 := hidM ho4; clear ho4; have Hc := hidM (fun a' c' hc => HCC.out W4 a' c' hb4' hc); have Hz := hidM (fun a' c' he => HZZ.out W4 a' c' he)) | (go_at_call 11; refine (Hz.out _ _ (by first | trivial | rfl)).mono ?_; clear Hc Hz; rintro e W5 ⟨⟨v5, rfl, ho5⟩, hb5⟩; have hb5' := nxt hb4' hb5; obtain ⟨f0, f1, f2, f3, f4⟩ := HA.out W5 hb5'; obtain ⟨x5, y5, rfl, -⟩ := ho5.ws; have HO5 := hidM ho5; clear ho5; have HWS := hidM (And.intro ((HO3.out.ws.below hb4).below hb5) (And.intro (HO4.out.ws.below hb5) HO5.out.ws)); have Hj := hidM (HJ1.out W5 (.slice x4 R1.1.length y4) (.slice x5 R2.1.length y5) hb5' HWS.out.2.1 HWS.out.2.2 HO4.out.cap HO5.out.cap)) | (go_at_call 14; refine (HN.out _ _).mono ?_; rintro e w' ⟨rfl, hww⟩; obtain rfl := hww.symm) | (go_at_call 19; refine Hj.out.mono ?_; clear Hj; rintro e W6 ⟨⟨v6, rfl, ho6⟩, hb6⟩; have hb6' := nxt (nxt hb5' (HST.out W5 (.cells #[.slice x4 R1.1.length y4, .slice x5 R2.1.length y5] 28))) hb6; obtain ⟨g0, g1, g2, g3, g4⟩ := HA.out W6 hb6'; have HO6 := hidM ho6; clear ho6; have hb56 := nxt (HST.out W5 (.cells #[.slice x4 R1.1.length y4, .slice x5 R2.1.length y5] 28)) hb6; have Hk := hidM (HJ2.out W6 (.slice x5 R2.1.length y5) (.slice x4 R1.1.length y4) hb6' (HWS.out.2.2.below hb56) (HWS.out.2.1.below hb56) HO5.out.cap HO4.out.cap)) | (go_at_call 19; refine Hk.out.mono ?_; clear Hk; rintro e W7 ⟨⟨v7, rfl, ho7⟩, hb7⟩; have hb67 := nxt (HST.out W6 (.cells #[.slice x5 R2.1.length y5, .slice none 0 0, .slice x4 R1.1.length y4] 28)) hb7; have hb7' := nxt hb6' hb67; have HO7 := hidM ho7; clear ho7; have Hq := hidM (eqrows_any v6 v3 RA.1 W7 (HO6.out.ws.below hb67) (HWS.out.1.below (nxt hb56 hb67)) HFL.out HFS.out)) | (go_at_call 15; refine Hq.out.mono ?_; clear Hq; rintro e W8 ⟨rfl, hb8⟩; have hb8' := nxt hb7' hb8; have Hr := hidM (eqrows_any v7 v3 RA.1 W8 (HO7.out.ws.below hb8) ((HWS.out.1.below (nxt hb56 hb67)).below hb8) HFL.out HFS.out)) | (go_at_call 15; refine Hr.out.mono ?_; clear Hr; rintro e W9 ⟨rfl, hb9⟩; have hb9' := nxt hb8' hb9))
                      go_roundw
                      case rel => exact ⟨agg + 1, by go_num, by omega, by omega, hb9'⟩
                      case measure => simp [intOf]; omega
                    · have hz2' : (R2.2 != 0) = true := by simp [hz2]
                      have hRA := hidM (show RA.2 = 11 by
                        have q := parts_bad agg bd.toNat HB1.out (l.take l.length) (l.drop l.length) (.inr (fin_fold2 HR2.out hz2))
                        rw [List.take_append_drop] at q
                        rw [HRA.out, fin_bad (by rw [q]; decide)]
                        exact q)
                      have hRA' := hRA.out
                      clear HR1 HR2 HRA
                      go_wp2_with (first | (go_at_call 11; refine Ha.out.mono ?_; clear Ha; rintro e W3 ⟨⟨v3, rfl, ho3⟩, hb3⟩; have hb3' := nxt HBR.out hb3; obtain ⟨d0, d1, d2, d3, d4⟩ := HA.out W3 hb3'; have HO3 := hidM ho3; clear ho3; have Hb := hidM (HBB.out W3 hb3')) | (go_at_call 26; refine (HWI.out _).mono ?_; rintro e w' ⟨rfl, hww⟩; obtain rfl := hww.symm) | (go_at_call 11; refine Hb.out.mono ?_; clear Hb; rintro e W4 ⟨⟨v4, rfl, ho4⟩, hb4⟩; have hb4' := nxt hb3' hb4; obtain ⟨e0, e1, e2, e3, e4⟩ := HA.out W4 hb4'; obtain ⟨x4, y4, rfl, -⟩ := ho4.ws; have HO4 := hidM ho4; clear ho4; have Hc := hidM (fun a' c' hc => HCC.out W4 a' c' hb4' hc); have Hz := hidM (fun a' c' he => HZZ.out W4 a' c' he)) | (go_at_call 11; refine (Hz.out _ _ (by first | trivial | rfl)).mono ?_; clear Hc Hz; rintro e W5 ⟨⟨v5, rfl, ho5⟩, hb5⟩; have hb5' := nxt hb4' hb5; obtain ⟨f0, f1, f2, f3, f4⟩ := HA.out W5 hb5'; obtain ⟨x5, y5, rfl, -⟩ := ho5.ws; have HO5 := hidM ho5; clear ho5) | (go_at_call 14; refine (HN.out _ _).mono ?_; rintro e w' ⟨rfl, hww⟩; obtain rfl := hww.symm))
                      go_roundw
                      case rel => exact ⟨agg + 1, by go_num, by omega, by omega, hb5'⟩
                      case measure => simp [intOf]; omega
                  · have hz1' : (R1.2 != 0) = true := by simp [hz1]
                    have hRA := hidM (show RA.2 = 11 by
                      have q := parts_bad agg bd.toNat HB1.out (l.take l.length) (l.drop l.length) (.inl (fin_fold2 HR1.out hz1))
                      rw [List.take_append_drop] at q
                      rw [HRA.out, fin_bad (by rw [q]; decide)]
                      exact q)
                    have hRA' := hRA.out
                    clear HR1 HR2 HRA
                    go_wp2_with (first | (go_at_call 11; refine Ha.out.mono ?_; clear Ha; rintro e W3 ⟨⟨v3, rfl, ho3⟩, hb3⟩; have hb3' := nxt HBR.out hb3; obtain ⟨d0, d1, d2, d3, d4⟩ := HA.out W3 hb3'; have HO3 := hidM ho3; clear ho3; have Hb := hidM (HBB.out W3 hb3')) | (go_at_call 26; refine (HWI.out _).mono ?_; rintro e w' ⟨rfl, hww⟩; obtain rfl := hww.symm) | (go_at_call 11; refine Hb.out.mono ?_; clear Hb; rintro e W4 ⟨⟨v4, rfl, ho4⟩, hb4⟩; have hb4' := nxt hb3' hb4; obtain ⟨e0, e1, e2, e3, e4⟩ := HA.out W4 hb4'; obtain ⟨x4, y4, rfl, -⟩ := ho4.ws; have HO4 := hidM ho4; clear ho4; have Hc := hidM (fun a' c' hc => HCC.out W4 a' c' hb4' hc); have Hz := hidM (fun a' c' he => HZZ.out W4 a' c' he)) | (go_at_call 11; refine (Hz.out _ _ (by first | trivial | rfl)).mono ?_; clear Hc Hz; rintro e W5 ⟨⟨v5, rfl, ho5⟩, hb5⟩; have hb5' := nxt hb4' hb5; obtain ⟨f0, f1, f2, f3, f4⟩ := HA.out W5 hb5'; obtain ⟨x5, y5, rfl, -⟩ := ho5.ws; have HO5 := hidM ho5; clear ho5) | (go_at_call 14; refine (HN.out _ _).mono ?_; rintro e w' ⟨rfl, hww⟩; obtain rfl := hww.symm))
                    go_roundw
                    case rel => exact ⟨agg + 1, by go_num, by omega, by omega, hb5'⟩
                    case measure => simp [intOf]; omega
                · have hcv' : ¬ vc = at' := fun e => hcv e.symm
                  have HEQ := hidM (show at' = l.length by omega)
                  clear hl0
                  by_cases hz1 : R1.2 = 0
                  · by_cases hz2 : R2.2 = 0
                    · obtain ⟨p1, p2⟩ := fin_fold1 HR1.out hz1
                      obtain ⟨p3, p4⟩ := fin_fold1 HR2.out hz2
                      obtain ⟨p5, p6⟩ := parts_ok agg bd.toNat (HB1.out) (l.take at') (l.drop at') p2 p4
                      rw [List.take_append_drop, ← HRA.out, ← p1, ← p3] at p5 p6
                      have hr1 : RunOk agg bd R1.1 := by rw [p1]; exact HF1.out.run
                      have hr2 : RunOk agg bd R2.1 := by rw [p3]; exact HF2.out.run
                      have hsz : R1.1.length + R2.1.length ≤ 300 := by rw [p1, p3]; exact HSZ.out
                      have HJ1 := hidM (show ∀ (W : World) (u1 u2 : Value), Below W0.heap.size W0 W → WS W u1 R1.1 → WS W u2 R2.1 → CapOk u1 → CapOk u2 → Calls Try.prog 19 #[.int .i64 agg, .int .i64 bd, .slice (some ⟨W.heap.size, 0, none⟩) 2 2] (W.alloc (.cells #[u1, u2] 28)) (RowsR (W.alloc (.cells #[u1, u2] 28)) (W.alloc (.cells #[u1, u2] 28)).heap.size RA) from fun W u1 u2 hW h1 h2 c1 c2 => by
                        have := join_ok agg bd _ [R1.1, R2.1] (W.alloc (.cells #[u1, u2] 28)) (rns_two h1 h2 c1 c2 (HST.out _ _) (heap_alloc_new W _)) HWAY.out (fun q hq => by simp at hq; rcases hq with rfl | rfl; exact hr1; exact hr2) (by simp) (by
                          have := len_gat (joinC agg bd.toNat) [R1.1, R2.1].flatten
                          simp at this
                          simp
                          omega)
                        rw [show [R1.1, R2.1].flatten = R1.1 ++ R2.1 by simp, p5] at this
                        exact this)
                      have HJ2 := hidM (show ∀ (W : World) (u1 u2 : Value), Below W0.heap.size W0 W → WS W u1 R2.1 → WS W u2 R1.1 → CapOk u1 → CapOk u2 → Calls Try.prog 19 #[.int .i64 agg, .int .i64 bd, .slice (some ⟨W.heap.size, 0, none⟩) 3 3] (W.alloc (.cells #[u1, .slice none 0 0, u2] 28)) (RowsR (W.alloc (.cells #[u1, .slice none 0 0, u2] 28)) (W.alloc (.cells #[u1, .slice none 0 0, u2] 28)).heap.size RA) from fun W u1 u2 hW h1 h2 c1 c2 => by
                        have := join_ok agg bd _ [R2.1, [], R1.1] (W.alloc (.cells #[u1, .slice none 0 0, u2] 28)) (rns_three h1 ⟨none, 0, rfl, .inl rfl⟩ h2 c1 (Nat.le_refl 0) c2 (HST.out _ _) (heap_alloc_new W _)) HWAY.out (fun q hq => by simp at hq; rcases hq with rfl | rfl | rfl; exact hr2; exact run_nil HWAY.out; exact hr1) (by simp) (by
                          have := len_gat (joinC agg bd.toNat) [R2.1, [], R1.1].flatten
                          simp at this
                          simp
                          omega)
                        rw [show [R2.1, [], R1.1].flatten = R2.1 ++ R1.1 by simp, p6] at this
                        exact this)
                      clear p1 p2 p3 p4 p5 p6 hr1 hr2 hsz HR1 HR2 HRA
                      go_wp2_with (first | (go_at_call 11; refine Ha.out.mono ?_; clear Ha; rintro e W3 ⟨⟨v3, rfl, ho3⟩, hb3⟩; have hb3' := nxt HBR.out hb3; obtain ⟨d0, d1, d2, d3, d4⟩ := HA.out W3 hb3'; have HO3 := hidM ho3; clear ho3; have Hb := hidM (HBB.out W3 hb3')) | (go_at_call 26; refine (HWI.out _).mono ?_; rintro e w' ⟨rfl, hww⟩; obtain rfl := hww.symm) | (go_at_call 11; refine Hb.out.mono ?_; clear Hb; rintro e W4 ⟨⟨v4, rfl, ho4⟩, hb4⟩; have hb4' := nxt hb3' hb4; obtain ⟨e0, e1, e2, e3, e4⟩ := HA.out W4 hb4'; obtain ⟨x4, y4, rfl, -⟩ := ho4.ws; have HO4 := hidM ho4; clear ho4; have Hc := hidM (fun a' c' hc => HCC.out W4 a' c' hb4' hc); have Hz := hidM (fun a' c' he => HZZ.out W4 a' c' he)) | (go_at_call 11; refine (Hc.out _ _ (.inl HEQ.out)).mono ?_; clear Hc Hz; rintro e W5 ⟨⟨v5, rfl, ho5⟩, hb5⟩; have hb5' := nxt hb4' hb5; obtain ⟨f0, f1, f2, f3, f4⟩ := HA.out W5 hb5'; obtain ⟨x5, y5, rfl, -⟩ := ho5.ws; have HO5 := hidM ho5; clear ho5; have HWS := hidM (And.intro ((HO3.out.ws.below hb4).below hb5) (And.intro (HO4.out.ws.below hb5) HO5.out.ws)); have Hj := hidM (HJ1.out W5 (.slice x4 R1.1.length y4) (.slice x5 R2.1.length y5) hb5' HWS.out.2.1 HWS.out.2.2 HO4.out.cap HO5.out.cap)) | (go_at_call 14; refine (HN.out _ _).mono ?_; rintro e w' ⟨rfl, hww⟩; obtain rfl := hww.symm) | (go_at_call 19; refine Hj.out.mono ?_; clear Hj; rintro e W6 ⟨⟨v6, rfl, ho6⟩, hb6⟩; have hb6' := nxt (nxt hb5' (HST.out W5 (.cells #[.slice x4 R1.1.length y4, .slice x5 R2.1.length y5] 28))) hb6; obtain ⟨g0, g1, g2, g3, g4⟩ := HA.out W6 hb6'; have HO6 := hidM ho6; clear ho6; have hb56 := nxt (HST.out W5 (.cells #[.slice x4 R1.1.length y4, .slice x5 R2.1.length y5] 28)) hb6; have Hk := hidM (HJ2.out W6 (.slice x5 R2.1.length y5) (.slice x4 R1.1.length y4) hb6' (HWS.out.2.2.below hb56) (HWS.out.2.1.below hb56) HO5.out.cap HO4.out.cap)) | (go_at_call 19; refine Hk.out.mono ?_; clear Hk; rintro e W7 ⟨⟨v7, rfl, ho7⟩, hb7⟩; have hb67 := nxt (HST.out W6 (.cells #[.slice x5 R2.1.length y5, .slice none 0 0, .slice x4 R1.1.length y4] 28)) hb7; have hb7' := nxt hb6' hb67; have HO7 := hidM ho7; clear ho7; have Hq := hidM (eqrows_any v6 v3 RA.1 W7 (HO6.out.ws.below hb67) (HWS.out.1.below (nxt hb56 hb67)) HFL.out HFS.out)) | (go_at_call 15; refine Hq.out.mono ?_; clear Hq; rintro e W8 ⟨rfl, hb8⟩; have hb8' := nxt hb7' hb8; have Hr := hidM (eqrows_any v7 v3 RA.1 W8 (HO7.out.ws.below hb8) ((HWS.out.1.below (nxt hb56 hb67)).below hb8) HFL.out HFS.out)) | (go_at_call 15; refine Hr.out.mono ?_; clear Hr; rintro e W9 ⟨rfl, hb9⟩; have hb9' := nxt hb8' hb9))
                      go_roundw
                      case rel => exact ⟨agg + 1, by go_num, by omega, by omega, hb9'⟩
                      case measure => simp [intOf]; omega
                    · have hz2' : (R2.2 != 0) = true := by simp [hz2]
                      have hRA := hidM (show RA.2 = 11 by
                        have q := parts_bad agg bd.toNat HB1.out (l.take at') (l.drop at') (.inr (fin_fold2 HR2.out hz2))
                        rw [List.take_append_drop] at q
                        rw [HRA.out, fin_bad (by rw [q]; decide)]
                        exact q)
                      have hRA' := hRA.out
                      clear HR1 HR2 HRA
                      go_wp2_with (first | (go_at_call 11; refine Ha.out.mono ?_; clear Ha; rintro e W3 ⟨⟨v3, rfl, ho3⟩, hb3⟩; have hb3' := nxt HBR.out hb3; obtain ⟨d0, d1, d2, d3, d4⟩ := HA.out W3 hb3'; have HO3 := hidM ho3; clear ho3; have Hb := hidM (HBB.out W3 hb3')) | (go_at_call 26; refine (HWI.out _).mono ?_; rintro e w' ⟨rfl, hww⟩; obtain rfl := hww.symm) | (go_at_call 11; refine Hb.out.mono ?_; clear Hb; rintro e W4 ⟨⟨v4, rfl, ho4⟩, hb4⟩; have hb4' := nxt hb3' hb4; obtain ⟨e0, e1, e2, e3, e4⟩ := HA.out W4 hb4'; obtain ⟨x4, y4, rfl, -⟩ := ho4.ws; have HO4 := hidM ho4; clear ho4; have Hc := hidM (fun a' c' hc => HCC.out W4 a' c' hb4' hc); have Hz := hidM (fun a' c' he => HZZ.out W4 a' c' he)) | (go_at_call 11; refine (Hc.out _ _ (.inl HEQ.out)).mono ?_; clear Hc Hz; rintro e W5 ⟨⟨v5, rfl, ho5⟩, hb5⟩; have hb5' := nxt hb4' hb5; obtain ⟨f0, f1, f2, f3, f4⟩ := HA.out W5 hb5'; obtain ⟨x5, y5, rfl, -⟩ := ho5.ws; have HO5 := hidM ho5; clear ho5) | (go_at_call 14; refine (HN.out _ _).mono ?_; rintro e w' ⟨rfl, hww⟩; obtain rfl := hww.symm))
                      go_roundw
                      case rel => exact ⟨agg + 1, by go_num, by omega, by omega, hb5'⟩
                      case measure => simp [intOf]; omega
                  · have hz1' : (R1.2 != 0) = true := by simp [hz1]
                    have hRA := hidM (show RA.2 = 11 by
                      have q := parts_bad agg bd.toNat HB1.out (l.take at') (l.drop at') (.inl (fin_fold2 HR1.out hz1))
                      rw [List.take_append_drop] at q
                      rw [HRA.out, fin_bad (by rw [q]; decide)]
                      exact q)
                    have hRA' := hRA.out
                    clear HR1 HR2 HRA
                    go_wp2_with (first | (go_at_call 11; refine Ha.out.mono ?_; clear Ha; rintro e W3 ⟨⟨v3, rfl, ho3⟩, hb3⟩; have hb3' := nxt HBR.out hb3; obtain ⟨d0, d1, d2, d3, d4⟩ := HA.out W3 hb3'; have HO3 := hidM ho3; clear ho3; have Hb := hidM (HBB.out W3 hb3')) | (go_at_call 26; refine (HWI.out _).mono ?_; rintro e w' ⟨rfl, hww⟩; obtain rfl := hww.symm) | (go_at_call 11; refine Hb.out.mono ?_; clear Hb; rintro e W4 ⟨⟨v4, rfl, ho4⟩, hb4⟩; have hb4' := nxt hb3' hb4; obtain ⟨e0, e1, e2, e3, e4⟩ := HA.out W4 hb4'; obtain ⟨x4, y4, rfl, -⟩ := ho4.ws; have HO4 := hidM ho4; clear ho4; have Hc := hidM (fun a' c' hc => HCC.out W4 a' c' hb4' hc); have Hz := hidM (fun a' c' he => HZZ.out W4 a' c' he)) | (go_at_call 11; refine (Hc.out _ _ (.inl HEQ.out)).mono ?_; clear Hc Hz; rintro e W5 ⟨⟨v5, rfl, ho5⟩, hb5⟩; have hb5' := nxt hb4' hb5; obtain ⟨f0, f1, f2, f3, f4⟩ := HA.out W5 hb5'; obtain ⟨x5, y5, rfl, -⟩ := ho5.ws; have HO5 := hidM ho5; clear ho5) | (go_at_call 14; refine (HN.out _ _).mono ?_; rintro e w' ⟨rfl, hww⟩; obtain rfl := hww.symm))
                    go_roundw
                    case rel => exact ⟨agg + 1, by go_num, by omega, by omega, hb5'⟩
                    case measure => simp [intOf]; omega
              · by_cases hcv : at' = vc
                · obtain rfl : at' = l.length := by omega
                  obtain rfl : vc = l.length := by omega
                  by_cases hz1 : R1.2 = 0
                  · by_cases hz2 : R2.2 = 0
                    · obtain ⟨p1, p2⟩ := fin_fold1 HR1.out hz1
                      obtain ⟨p3, p4⟩ := fin_fold1 HR2.out hz2
                      obtain ⟨p5, p6⟩ := parts_ok agg bd.toNat (HB1.out) (l.take l.length) (l.drop l.length) p2 p4
                      rw [List.take_append_drop, ← HRA.out, ← p1, ← p3] at p5 p6
                      have hr1 : RunOk agg bd R1.1 := by rw [p1]; exact HF1.out.run
                      have hr2 : RunOk agg bd R2.1 := by rw [p3]; exact HF2.out.run
                      have hsz : R1.1.length + R2.1.length ≤ 300 := by rw [p1, p3]; exact HSZ.out
                      have HJ1 := hidM (show ∀ (W : World) (u1 u2 : Value), Below W0.heap.size W0 W → WS W u1 R1.1 → WS W u2 R2.1 → CapOk u1 → CapOk u2 → Calls Try.prog 19 #[.int .i64 agg, .int .i64 bd, .slice (some ⟨W.heap.size, 0, none⟩) 2 2] (W.alloc (.cells #[u1, u2] 28)) (RowsR (W.alloc (.cells #[u1, u2] 28)) (W.alloc (.cells #[u1, u2] 28)).heap.size RA) from fun W u1 u2 hW h1 h2 c1 c2 => by
                        have := join_ok agg bd _ [R1.1, R2.1] (W.alloc (.cells #[u1, u2] 28)) (rns_two h1 h2 c1 c2 (HST.out _ _) (heap_alloc_new W _)) HWAY.out (fun q hq => by simp at hq; rcases hq with rfl | rfl; exact hr1; exact hr2) (by simp) (by
                          have := len_gat (joinC agg bd.toNat) [R1.1, R2.1].flatten
                          simp at this
                          simp
                          omega)
                        rw [show [R1.1, R2.1].flatten = R1.1 ++ R2.1 by simp, p5] at this
                        exact this)
                      have HJ2 := hidM (show ∀ (W : World) (u1 u2 : Value), Below W0.heap.size W0 W → WS W u1 R2.1 → WS W u2 R1.1 → CapOk u1 → CapOk u2 → Calls Try.prog 19 #[.int .i64 agg, .int .i64 bd, .slice (some ⟨W.heap.size, 0, none⟩) 3 3] (W.alloc (.cells #[u1, .slice none 0 0, u2] 28)) (RowsR (W.alloc (.cells #[u1, .slice none 0 0, u2] 28)) (W.alloc (.cells #[u1, .slice none 0 0, u2] 28)).heap.size RA) from fun W u1 u2 hW h1 h2 c1 c2 => by
                        have := join_ok agg bd _ [R2.1, [], R1.1] (W.alloc (.cells #[u1, .slice none 0 0, u2] 28)) (rns_three h1 ⟨none, 0, rfl, .inl rfl⟩ h2 c1 (Nat.le_refl 0) c2 (HST.out _ _) (heap_alloc_new W _)) HWAY.out (fun q hq => by simp at hq; rcases hq with rfl | rfl | rfl; exact hr2; exact run_nil HWAY.out; exact hr1) (by simp) (by
                          have := len_gat (joinC agg bd.toNat) [R2.1, [], R1.1].flatten
                          simp at this
                          simp
                          omega)
                        rw [show [R2.1, [], R1.1].flatten = R2.1 ++ R1.1 by simp, p6] at this
                        exact this)
                      clear p1 p2 p3 p4 p5 p6 hr1 hr2 hsz HR1 HR2 HRA
                      go_wp2_with (first | (go_at_call 11; refine Ha.out.mono ?_; clear Ha; rintro e W3 ⟨⟨v3, rfl, ho3⟩, hb3⟩; have hb3' := nxt HBR.out hb3; obtain ⟨d0, d1, d2, d3, d4⟩ := HA.out W3 hb3'; have HO3 := hidM ho3; clear ho3; have Hb := hidM (HBB.out W3 hb3')) | (go_at_call 26; refine (HWI.out _).mono ?_; rintro e w' ⟨rfl, hww⟩; obtain rfl := hww.symm) | (go_at_call 11; refine Hb.out.mono ?_; clear Hb; rintro e W4 ⟨⟨v4, rfl, ho4⟩, hb4⟩; have hb4' := nxt hb3' hb4; obtain ⟨e0, e1, e2, e3, e4⟩ := HA.out W4 hb4'; obtain ⟨x4, y4, rfl, -⟩ := ho4.ws; have HO4 := hidM ho4; clear ho4; have Hc := hidM (fun a' c' hc => HCC.out W4 a' c' hb4' hc); have Hz := hidM (fun a' c' he => HZZ.out W4 a' c' he)) | (go_at_call 11; refine (Hz.out _ _ (by first | trivial | rfl)).mono ?_; clear Hc Hz; rintro e W5 ⟨⟨v5, rfl, ho5⟩, hb5⟩; have hb5' := nxt hb4' hb5; obtain ⟨f0, f1, f2, f3, f4⟩ := HA.out W5 hb5'; obtain ⟨x5, y5, rfl, -⟩ := ho5.ws; have HO5 := hidM ho5; clear ho5; have HWS := hidM (And.intro ((HO3.out.ws.below hb4).below hb5) (And.intro (HO4.out.ws.below hb5) HO5.out.ws)); have Hj := hidM (HJ1.out W5 (.slice x4 R1.1.length y4) (.slice x5 R2.1.length y5) hb5' HWS.out.2.1 HWS.out.2.2 HO4.out.cap HO5.out.cap)) | (go_at_call 14; refine (HN.out _ _).mono ?_; rintro e w' ⟨rfl, hww⟩; obtain rfl := hww.symm) | (go_at_call 19; refine Hj.out.mono ?_; clear Hj; rintro e W6 ⟨⟨v6, rfl, ho6⟩, hb6⟩; have hb6' := nxt (nxt hb5' (HST.out W5 (.cells #[.slice x4 R1.1.length y4, .slice x5 R2.1.length y5] 28))) hb6; obtain ⟨g0, g1, g2, g3, g4⟩ := HA.out W6 hb6'; have HO6 := hidM ho6; clear ho6; have hb56 := nxt (HST.out W5 (.cells #[.slice x4 R1.1.length y4, .slice x5 R2.1.length y5] 28)) hb6; have Hk := hidM (HJ2.out W6 (.slice x5 R2.1.length y5) (.slice x4 R1.1.length y4) hb6' (HWS.out.2.2.below hb56) (HWS.out.2.1.below hb56) HO5.out.cap HO4.out.cap)) | (go_at_call 19; refine Hk.out.mono ?_; clear Hk; rintro e W7 ⟨⟨v7, rfl, ho7⟩, hb7⟩; have hb67 := nxt (HST.out W6 (.cells #[.slice x5 R2.1.length y5, .slice none 0 0, .slice x4 R1.1.length y4] 28)) hb7; have hb7' := nxt hb6' hb67; have HO7 := hidM ho7; clear ho7; have Hq := hidM (eqrows_any v6 v3 RA.1 W7 (HO6.out.ws.below hb67) (HWS.out.1.below (nxt hb56 hb67)) HFL.out HFS.out)) | (go_at_call 15; refine Hq.out.mono ?_; clear Hq; rintro e W8 ⟨rfl, hb8⟩; have hb8' := nxt hb7' hb8; have Hr := hidM (eqrows_any v7 v3 RA.1 W8 (HO7.out.ws.below hb8) ((HWS.out.1.below (nxt hb56 hb67)).below hb8) HFL.out HFS.out)) | (go_at_call 15; refine Hr.out.mono ?_; clear Hr; rintro e W9 ⟨rfl, hb9⟩; have hb9' := nxt hb8' hb9))
                      go_roundw
                      case rel => exact ⟨agg + 1, by go_num, by omega, by omega, hb9'⟩
                      case measure => simp [intOf]; omega
                    · have hz2' : (R2.2 != 0) = true := by simp [hz2]
                      have hRA := hidM (show RA.2 = 11 by
                        have q := parts_bad agg bd.toNat HB1.out (l.take l.length) (l.drop l.length) (.inr (fin_fold2 HR2.out hz2))
                        rw [List.take_append_drop] at q
                        rw [HRA.out, fin_bad (by rw [q]; decide)]
                        exact q)
                      have hRA' := hRA.out
                      clear HR1 HR2 HRA
                      go_wp2_with (first | (go_at_call 11; refine Ha.out.mono ?_; clear Ha; rintro e W3 ⟨⟨v3, rfl, ho3⟩, hb3⟩; have hb3' := nxt HBR.out hb3; obtain ⟨d0, d1, d2, d3, d4⟩ := HA.out W3 hb3'; have HO3 := hidM ho3; clear ho3; have Hb := hidM (HBB.out W3 hb3')) | (go_at_call 26; refine (HWI.out _).mono ?_; rintro e w' ⟨rfl, hww⟩; obtain rfl := hww.symm) | (go_at_call 11; refine Hb.out.mono ?_; clear Hb; rintro e W4 ⟨⟨v4, rfl, ho4⟩, hb4⟩; have hb4' := nxt hb3' hb4; obtain ⟨e0, e1, e2, e3, e4⟩ := HA.out W4 hb4'; obtain ⟨x4, y4, rfl, -⟩ := ho4.ws; have HO4 := hidM ho4; clear ho4; have Hc := hidM (fun a' c' hc => HCC.out W4 a' c' hb4' hc); have Hz := hidM (fun a' c' he => HZZ.out W4 a' c' he)) | (go_at_call 11; refine (Hz.out _ _ (by first | trivial | rfl)).mono ?_; clear Hc Hz; rintro e W5 ⟨⟨v5, rfl, ho5⟩, hb5⟩; have hb5' := nxt hb4' hb5; obtain ⟨f0, f1, f2, f3, f4⟩ := HA.out W5 hb5'; obtain ⟨x5, y5, rfl, -⟩ := ho5.ws; have HO5 := hidM ho5; clear ho5) | (go_at_call 14; refine (HN.out _ _).mono ?_; rintro e w' ⟨rfl, hww⟩; obtain rfl := hww.symm))
                      go_roundw
                      case rel => exact ⟨agg + 1, by go_num, by omega, by omega, hb5'⟩
                      case measure => simp [intOf]; omega
                  · have hz1' : (R1.2 != 0) = true := by simp [hz1]
                    have hRA := hidM (show RA.2 = 11 by
                      have q := parts_bad agg bd.toNat HB1.out (l.take l.length) (l.drop l.length) (.inl (fin_fold2 HR1.out hz1))
                      rw [List.take_append_drop] at q
                      rw [HRA.out, fin_bad (by rw [q]; decide)]
                      exact q)
                    have hRA' := hRA.out
                    clear HR1 HR2 HRA
                    go_wp2_with (first | (go_at_call 11; refine Ha.out.mono ?_; clear Ha; rintro e W3 ⟨⟨v3, rfl, ho3⟩, hb3⟩; have hb3' := nxt HBR.out hb3; obtain ⟨d0, d1, d2, d3, d4⟩ := HA.out W3 hb3'; have HO3 := hidM ho3; clear ho3; have Hb := hidM (HBB.out W3 hb3')) | (go_at_call 26; refine (HWI.out _).mono ?_; rintro e w' ⟨rfl, hww⟩; obtain rfl := hww.symm) | (go_at_call 11; refine Hb.out.mono ?_; clear Hb; rintro e W4 ⟨⟨v4, rfl, ho4⟩, hb4⟩; have hb4' := nxt hb3' hb4; obtain ⟨e0, e1, e2, e3, e4⟩ := HA.out W4 hb4'; obtain ⟨x4, y4, rfl, -⟩ := ho4.ws; have HO4 := hidM ho4; clear ho4; have Hc := hidM (fun a' c' hc => HCC.out W4 a' c' hb4' hc); have Hz := hidM (fun a' c' he => HZZ.out W4 a' c' he)) | (go_at_call 11; refine (Hz.out _ _ (by first | trivial | rfl)).mono ?_; clear Hc Hz; rintro e W5 ⟨⟨v5, rfl, ho5⟩, hb5⟩; have hb5' := nxt hb4' hb5; obtain ⟨f0, f1, f2, f3, f4⟩ := HA.out W5 hb5'; obtain ⟨x5, y5, rfl, -⟩ := ho5.ws; have HO5 := hidM ho5; clear ho5) | (go_at_call 14; refine (HN.out _ _).mono ?_; rintro e w' ⟨rfl, hww⟩; obtain rfl := hww.symm))
                    go_roundw
                    case rel => exact ⟨agg + 1, by go_num, by omega, by omega, hb5'⟩
                    case measure => simp [intOf]; omega
                · have hcv' : ¬ vc = at' := fun e => hcv e.symm
                  by_cases hz1 : R1.2 = 0
                  · by_cases hz2 : R2.2 = 0
                    · obtain ⟨p1, p2⟩ := fin_fold1 HR1.out hz1
                      obtain ⟨p3, p4⟩ := fin_fold1 HR2.out hz2
                      obtain ⟨p5, p6⟩ := parts_ok agg bd.toNat (HB1.out) (l.take at') (l.drop at') p2 p4
                      rw [List.take_append_drop, ← HRA.out, ← p1, ← p3] at p5 p6
                      have hr1 : RunOk agg bd R1.1 := by rw [p1]; exact HF1.out.run
                      have hr2 : RunOk agg bd R2.1 := by rw [p3]; exact HF2.out.run
                      have hsz : R1.1.length + R2.1.length ≤ 300 := by rw [p1, p3]; exact HSZ.out
                      have HJ1 := hidM (show ∀ (W : World) (u1 u2 : Value), Below W0.heap.size W0 W → WS W u1 R1.1 → WS W u2 R2.1 → CapOk u1 → CapOk u2 → Calls Try.prog 19 #[.int .i64 agg, .int .i64 bd, .slice (some ⟨W.heap.size, 0, none⟩) 2 2] (W.alloc (.cells #[u1, u2] 28)) (RowsR (W.alloc (.cells #[u1, u2] 28)) (W.alloc (.cells #[u1, u2] 28)).heap.size RA) from fun W u1 u2 hW h1 h2 c1 c2 => by
                        have := join_ok agg bd _ [R1.1, R2.1] (W.alloc (.cells #[u1, u2] 28)) (rns_two h1 h2 c1 c2 (HST.out _ _) (heap_alloc_new W _)) HWAY.out (fun q hq => by simp at hq; rcases hq with rfl | rfl; exact hr1; exact hr2) (by simp) (by
                          have := len_gat (joinC agg bd.toNat) [R1.1, R2.1].flatten
                          simp at this
                          simp
                          omega)
                        rw [show [R1.1, R2.1].flatten = R1.1 ++ R2.1 by simp, p5] at this
                        exact this)
                      have HJ2 := hidM (show ∀ (W : World) (u1 u2 : Value), Below W0.heap.size W0 W → WS W u1 R2.1 → WS W u2 R1.1 → CapOk u1 → CapOk u2 → Calls Try.prog 19 #[.int .i64 agg, .int .i64 bd, .slice (some ⟨W.heap.size, 0, none⟩) 3 3] (W.alloc (.cells #[u1, .slice none 0 0, u2] 28)) (RowsR (W.alloc (.cells #[u1, .slice none 0 0, u2] 28)) (W.alloc (.cells #[u1, .slice none 0 0, u2] 28)).heap.size RA) from fun W u1 u2 hW h1 h2 c1 c2 => by
                        have := join_ok agg bd _ [R2.1, [], R1.1] (W.alloc (.cells #[u1, .slice none 0 0, u2] 28)) (rns_three h1 ⟨none, 0, rfl, .inl rfl⟩ h2 c1 (Nat.le_refl 0) c2 (HST.out _ _) (heap_alloc_new W _)) HWAY.out (fun q hq => by simp at hq; rcases hq with rfl | rfl | rfl; exact hr2; exact run_nil HWAY.out; exact hr1) (by simp) (by
                          have := len_gat (joinC agg bd.toNat) [R2.1, [], R1.1].flatten
                          simp at this
                          simp
                          omega)
                        rw [show [R2.1, [], R1.1].flatten = R2.1 ++ R1.1 by simp, p6] at this
                        exact this)
                      clear p1 p2 p3 p4 p5 p6 hr1 hr2 hsz HR1 HR2 HRA
                      go_wp2_with (first | (go_at_call 11; refine Ha.out.mono ?_; clear Ha; rintro e W3 ⟨⟨v3, rfl, ho3⟩, hb3⟩; have hb3' := nxt HBR.out hb3; obtain ⟨d0, d1, d2, d3, d4⟩ := HA.out W3 hb3'; have HO3 := hidM ho3; clear ho3; have Hb := hidM (HBB.out W3 hb3')) | (go_at_call 26; refine (HWI.out _).mono ?_; rintro e w' ⟨rfl, hww⟩; obtain rfl := hww.symm) | (go_at_call 11; refine Hb.out.mono ?_; clear Hb; rintro e W4 ⟨⟨v4, rfl, ho4⟩, hb4⟩; have hb4' := nxt hb3' hb4; obtain ⟨e0, e1, e2, e3, e4⟩ := HA.out W4 hb4'; obtain ⟨x4, y4, rfl, -⟩ := ho4.ws; have HO4 := hidM ho4; clear ho4; have Hc := hidM (fun a' c' hc => HCC.out W4 a' c' hb4' hc); have Hz := hidM (fun a' c' he => HZZ.out W4 a' c' he)) | (go_at_call 11; refine (Hc.out (some ⟨b9, off9 + at' * 3, none⟩) (vc - at') (.inr ⟨_, _, rfl, rfl⟩)).mono ?_; clear Hc Hz; rintro e W5 ⟨⟨v5, rfl, ho5⟩, hb5⟩; have hb5' := nxt hb4' hb5; obtain ⟨f0, f1, f2, f3, f4⟩ := HA.out W5 hb5'; obtain ⟨x5, y5, rfl, -⟩ := ho5.ws; have HO5 := hidM ho5; clear ho5; have HWS := hidM (And.intro ((HO3.out.ws.below hb4).below hb5) (And.intro (HO4.out.ws.below hb5) HO5.out.ws)); have Hj := hidM (HJ1.out W5 (.slice x4 R1.1.length y4) (.slice x5 R2.1.length y5) hb5' HWS.out.2.1 HWS.out.2.2 HO4.out.cap HO5.out.cap)) | (go_at_call 14; refine (HN.out _ _).mono ?_; rintro e w' ⟨rfl, hww⟩; obtain rfl := hww.symm) | (go_at_call 19; refine Hj.out.mono ?_; clear Hj; rintro e W6 ⟨⟨v6, rfl, ho6⟩, hb6⟩; have hb6' := nxt (nxt hb5' (HST.out W5 (.cells #[.slice x4 R1.1.length y4, .slice x5 R2.1.length y5] 28))) hb6; obtain ⟨g0, g1, g2, g3, g4⟩ := HA.out W6 hb6'; have HO6 := hidM ho6; clear ho6; have hb56 := nxt (HST.out W5 (.cells #[.slice x4 R1.1.length y4, .slice x5 R2.1.length y5] 28)) hb6; have Hk := hidM (HJ2.out W6 (.slice x5 R2.1.length y5) (.slice x4 R1.1.length y4) hb6' (HWS.out.2.2.below hb56) (HWS.out.2.1.below hb56) HO5.out.cap HO4.out.cap)) | (go_at_call 19; refine Hk.out.mono ?_; clear Hk; rintro e W7 ⟨⟨v7, rfl, ho7⟩, hb7⟩; have hb67 := nxt (HST.out W6 (.cells #[.slice x5 R2.1.length y5, .slice none 0 0, .slice x4 R1.1.length y4] 28)) hb7; have hb7' := nxt hb6' hb67; have HO7 := hidM ho7; clear ho7; have Hq := hidM (eqrows_any v6 v3 RA.1 W7 (HO6.out.ws.below hb67) (HWS.out.1.below (nxt hb56 hb67)) HFL.out HFS.out)) | (go_at_call 15; refine Hq.out.mono ?_; clear Hq; rintro e W8 ⟨rfl, hb8⟩; have hb8' := nxt hb7' hb8; have Hr := hidM (eqrows_any v7 v3 RA.1 W8 (HO7.out.ws.below hb8) ((HWS.out.1.below (nxt hb56 hb67)).below hb8) HFL.out HFS.out)) | (go_at_call 15; refine Hr.out.mono ?_; clear Hr; rintro e W9 ⟨rfl, hb9⟩; have hb9' := nxt hb8' hb9))
                      go_roundw
                      case rel => exact ⟨agg + 1, by go_num, by omega, by omega, hb9'⟩
                      case measure => simp [intOf]; omega
                    · have hz2' : (R2.2 != 0) = true := by simp [hz2]
                      have hRA := hidM (show RA.2 = 11 by
                        have q := parts_bad agg bd.toNat HB1.out (l.take at') (l.drop at') (.inr (fin_fold2 HR2.out hz2))
                        rw [List.take_append_drop] at q
                        rw [HRA.out, fin_bad (by rw [q]; decide)]
                        exact q)
                      have hRA' := hRA.out
                      clear HR1 HR2 HRA
                      go_wp2_with (first | (go_at_call 11; refine Ha.out.mono ?_; clear Ha; rintro e W3 ⟨⟨v3, rfl, ho3⟩, hb3⟩; have hb3' := nxt HBR.out hb3; obtain ⟨d0, d1, d2, d3, d4⟩ := HA.out W3 hb3'; have HO3 := hidM ho3; clear ho3; have Hb := hidM (HBB.out W3 hb3')) | (go_at_call 26; refine (HWI.out _).mono ?_; rintro e w' ⟨rfl, hww⟩; obtain rfl := hww.symm) | (go_at_call 11; refine Hb.out.mono ?_; clear Hb; rintro e W4 ⟨⟨v4, rfl, ho4⟩, hb4⟩; have hb4' := nxt hb3' hb4; obtain ⟨e0, e1, e2, e3, e4⟩ := HA.out W4 hb4'; obtain ⟨x4, y4, rfl, -⟩ := ho4.ws; have HO4 := hidM ho4; clear ho4; have Hc := hidM (fun a' c' hc => HCC.out W4 a' c' hb4' hc); have Hz := hidM (fun a' c' he => HZZ.out W4 a' c' he)) | (go_at_call 11; refine (Hc.out (some ⟨b9, off9 + at' * 3, none⟩) (vc - at') (.inr ⟨_, _, rfl, rfl⟩)).mono ?_; clear Hc Hz; rintro e W5 ⟨⟨v5, rfl, ho5⟩, hb5⟩; have hb5' := nxt hb4' hb5; obtain ⟨f0, f1, f2, f3, f4⟩ := HA.out W5 hb5'; obtain ⟨x5, y5, rfl, -⟩ := ho5.ws; have HO5 := hidM ho5; clear ho5) | (go_at_call 14; refine (HN.out _ _).mono ?_; rintro e w' ⟨rfl, hww⟩; obtain rfl := hww.symm))
                      go_roundw
                      case rel => exact ⟨agg + 1, by go_num, by omega, by omega, hb5'⟩
                      case measure => simp [intOf]; omega
                  · have hz1' : (R1.2 != 0) = true := by simp [hz1]
                    have hRA := hidM (show RA.2 = 11 by
                      have q := parts_bad agg bd.toNat HB1.out (l.take at') (l.drop at') (.inl (fin_fold2 HR1.out hz1))
                      rw [List.take_append_drop] at q
                      rw [HRA.out, fin_bad (by rw [q]; decide)]
                      exact q)
                    have hRA' := hRA.out
                    clear HR1 HR2 HRA
                    go_wp2_with (first | (go_at_call 11; refine Ha.out.mono ?_; clear Ha; rintro e W3 ⟨⟨v3, rfl, ho3⟩, hb3⟩; have hb3' := nxt HBR.out hb3; obtain ⟨d0, d1, d2, d3, d4⟩ := HA.out W3 hb3'; have HO3 := hidM ho3; clear ho3; have Hb := hidM (HBB.out W3 hb3')) | (go_at_call 26; refine (HWI.out _).mono ?_; rintro e w' ⟨rfl, hww⟩; obtain rfl := hww.symm) | (go_at_call 11; refine Hb.out.mono ?_; clear Hb; rintro e W4 ⟨⟨v4, rfl, ho4⟩, hb4⟩; have hb4' := nxt hb3' hb4; obtain ⟨e0, e1, e2, e3, e4⟩ := HA.out W4 hb4'; obtain ⟨x4, y4, rfl, -⟩ := ho4.ws; have HO4 := hidM ho4; clear ho4; have Hc := hidM (fun a' c' hc => HCC.out W4 a' c' hb4' hc); have Hz := hidM (fun a' c' he => HZZ.out W4 a' c' he)) | (go_at_call 11; refine (Hc.out (some ⟨b9, off9 + at' * 3, none⟩) (vc - at') (.inr ⟨_, _, rfl, rfl⟩)).mono ?_; clear Hc Hz; rintro e W5 ⟨⟨v5, rfl, ho5⟩, hb5⟩; have hb5' := nxt hb4' hb5; obtain ⟨f0, f1, f2, f3, f4⟩ := HA.out W5 hb5'; obtain ⟨x5, y5, rfl, -⟩ := ho5.ws; have HO5 := hidM ho5; clear ho5) | (go_at_call 14; refine (HN.out _ _).mono ?_; rintro e w' ⟨rfl, hww⟩; obtain rfl := hww.symm))
                    go_roundw
                    case rel => exact ⟨agg + 1, by go_num, by omega, by omega, hb5'⟩
                    case measure => simp [intOf]; omega
          · have hend' : agg = 7 := by omega
            subst hend'
            go_wp2_with (go_at_call 17; refine (HK.out _).mono ?_; rintro e W8 ⟨rfl, hb8⟩)
            go_ret
            exact ⟨rfl, nxt HB.out (nxt HBR.out hb8)⟩
end Go.Proofs.Yticpaemmdfmbfaa
