/- Texts laid together: WJoin, WJPlain. -/
import Derived.Test.YticpaemmdfmbfaaJ40
import Derived.Test.YticpaemmdfmbfaaJ14
/- row.Join of runs that may be. -/
namespace Go.Proofs.Yticpaemmdfmbfaa
open Go.RowKit Go.Maps
set_option linter.unusedVariables false
set_option maxRecDepth 100000

/-- Runs of rows, and none longer than it may be. -/
def RunsC (w : World) (b off : Nat) (L : List (List Rw)) : Prop := ∀ (i : Nat) (l : List Rw), L[i]? = some l → ∃ u, w.cell? ⟨b, off + i, none⟩ = some u ∧ WS w u l ∧ CapOk u
def RnS (w : World) (v : Value) (L : List (List Rw)) : Prop := ∃ a cap, v = .slice a L.length cap ∧ (L = [] ∨ ∃ b off, a = some ⟨b, off, none⟩ ∧ b < w.heap.size ∧ RunsC w b off L)
theorem RunsC.below {w w' : World} {b off B : Nat} {L : List (List Rw)} (h : RunsC w b off L) (hb : Below w.heap.size w w') (hlt : b < w.heap.size) : RunsC w' b off L := fun i l hl => by
  obtain ⟨u, h1, h2, h3⟩ := h i l hl
  exact ⟨u, (hb.cell (p := ⟨b, _, none⟩) hlt).trans h1, h2.below hb, h3⟩
/-- What each run is. -/
structure RunOk (agg bound : Int) (l : List Rw) : Prop where
  ok : okRows agg bound l = true
  cell : ∀ r ∈ l, OkC agg bound r.2
  key : ∀ r ∈ l, Good r.1
theorem flat_snoc {L : List (List Rw)} {k : Nat} {r : List Rw} (hr : L[k]? = some r) : (L.take (k + 1)).flatten = (L.take k).flatten ++ r := by
  rw [List.take_add_one, hr]
  simp
theorem len_mono (J : Cl → Cl → Cl × Int) (a b : List Rw) : (gat J a).1.length ≤ (gat J (a ++ b)).1.length := by
  induction b using snoc_ind with
  | h0 => rw [List.append_nil]; exact Nat.le_refl _
  | h1 b r ih =>
    rw [← List.append_assoc, gat_snoc]
    unfold stepG
    simp only
    rw [len_putR (rise_gat J (a ++ b))]
    split <;> omega
theorem flat_take (L : List (List Rw)) (k : Nat) : ∃ m, L.flatten = (L.take k).flatten ++ m := ⟨(L.drop k).flatten, by rw [← List.flatten_append, List.take_append_drop]⟩
theorem flat_mem {L : List (List Rw)} {k : Nat} {x : Rw} (h : x ∈ (L.take k).flatten) : ∃ l ∈ L, x ∈ l := by
  obtain ⟨l, hl, hx⟩ := List.mem_flatten.1 h
  exact ⟨l, List.mem_of_mem_take hl, hx⟩
theorem Gat.len_run {w : World} {base gp mp n : Nat} {agg bound : Int} {st : List Rw} {bad : Int} (h : Gat w base gp mp agg bound st bad n) : ∃ D, w.ownsMap Try.prog 52 RC mp n D ∧ Maps.size D = st.length := by
  obtain ⟨D, h1, h2⟩ := h.mo
  exact ⟨D, h1, h2.size⟩
theorem gatOk {agg bound : Int} {L : List (List Rw)} (hL : ∀ l ∈ L, RunOk agg bound l) (m : List Rw) (hm : ∀ x ∈ m, ∃ l ∈ L, x ∈ l) : (∀ x c, look (gat (joinC agg bound.toNat) m).1 x = some c → OkC agg bound c) ∧ ∀ r ∈ (gat (joinC agg bound.toNat) m).1, Good r.1 := by
  refine ⟨okC_gat m fun r hr => ?_, fun r hr => ?_⟩
  · obtain ⟨l, hl, hx⟩ := hm r hr
    exact (hL l hl).cell r hx
  · have h1 := mem_look (rise_gat _ m) hr
    obtain ⟨y, hy, e⟩ := (keys_gat (joinC agg bound.toNat) m r.1).1 (by rw [h1]; rfl)
    obtain ⟨l, hl, hx⟩ := hm y hy
    rw [← e]
    exact (hL l hl).key y hx
set_option maxHeartbeats 2000000 in
theorem join_ok (agg bound : Int) (v : Value) (L : List (List Rw)) (w : World) (h : RnS w v L) (hw : wayC agg bound = true) (hL : ∀ l ∈ L, RunOk agg bound l) (hl : L.length ≤ 100) (hlen : (gat (joinC agg bound.toNat) L.flatten).1.length ≤ 1536) :
    Calls Try.prog 19 #[.int .i64 agg, .int .i64 bound, v] w (RowsR w w.heap.size (fin (gat (joinC agg bound.toNat) L.flatten))) := by
  have H1 := hidM (fun W => rway_any agg bound W)
  rw [hw] at H1
  have H3 := hidM (fun W (hW : w.heap.size ≤ W.heap.size) => newG_any agg bound w.heap.size W hW)
  obtain ⟨va, vc, rfl, hsh⟩ := h
  have HL := hidM hL
  have HLEN := hidM hlen
  clear hL hlen
  go_enter Try.func19, Try.ntmps19
  go_wp2_with (go_at_call 30; refine (H1.out _).mono ?_; rintro e W1 ⟨rfl, hb1⟩)
  go_wp2_with (go_at_call 32; refine (H3.out _ hb1.size).mono ?_; rintro e W3 ⟨rfl, hG3, hb3⟩)
  have hb3' := nxt hb1 hb3
  clear hb1 hb3
  generalize W1.heap.size + 1 = gp at hG3 ⊢
  generalize W1.heap.size = mp at hG3
  clear W1 H1 H3
  go_loopw [23] (fun i wr => ∃ k n : Nat, k ≤ L.length ∧ i = .int .i64 k ∧ n ≤ 1536 * k ∧ Gat wr w.heap.size gp mp agg bound (gat (joinC agg bound.toNat) (L.take k).flatten).1 (gat (joinC agg bound.toNat) (L.take k).flatten).2 n ∧ Below w.heap.size w wr) (fun i _ => L.length - (intOf i).toNat)
  case atStart => exact ⟨0, 0, by omega, rfl, by omega, hG3, hb3'⟩
  case round =>
    clear hG3 hb3'
    rename World => w0
    obtain ⟨k, n, hk, rfl, hn, hG, hbel⟩ := hrel
    have hsz := hbel.size
    by_cases hlt : k < L.length
    · obtain ⟨r, hr⟩ := getSome hlt
      rcases hsh with rfl | ⟨b, off, rfl, hb, hat⟩
      · simp at hlt
      have hro := HL.out r (List.mem_of_getElem? hr)
      obtain ⟨u, hu0, hws, hcap⟩ := hat k r hr
      have hu := (hbel.cell (p := ⟨b, off + k, none⟩) hb).trans hu0
      have hrl : r.length ≤ 1536 := (okRows_parts hro.ok).2.1
      have HC := hidM (rcheck_ok agg bound u r w0 (hws.below hbel) (fun x hx => by have := (hro.cell x hx).2.2; omega) hcap hro.ok)
      obtain ⟨ua, uc, rfl, hush⟩ := hws
      have hfs := flat_snoc hr
      have HBEL := hidM hbel
      have HG := hidM hG
      have HUS := hidM hush
      clear hat hbel hG hush hcap
      go_wp2_with (go_at_call 23; refine HC.out.mono ?_; rintro e W1 ⟨rfl, hb1⟩)
      go_loopw [36] (fun i wr => ∃ q : Nat, q ≤ r.length ∧ i = .int .i64 q ∧ Gat wr w.heap.size gp mp agg bound (gat (joinC agg bound.toNat) ((L.take k).flatten ++ r.take q)).1 (gat (joinC agg bound.toNat) ((L.take k).flatten ++ r.take q)).2 (n + q) ∧ Below w.heap.size w wr) (fun i _ => r.length - (intOf i).toNat)
      case atStart => exact ⟨0, by omega, rfl, by rw [List.take_zero, List.append_nil]; exact HG.out.below hb1, nxt HBEL.out hb1⟩
      case round =>
        clear hb1
        rename World => w2
        obtain ⟨q, hq, rfl, hG, hbel⟩ := hrel
        have hsz2 := hbel.size
        by_cases hql : q < r.length
        · obtain ⟨⟨⟨ya, yb⟩, yn, yl⟩, hy⟩ := getSome hql
          have hym := List.mem_of_getElem? hy
          have hoc := hro.cell _ hym
          have hgo := hro.key _ hym
          rcases HUS.out with rfl | ⟨b2, off2, rfl, hb2, hat2⟩
          · simp at hql
          obtain ⟨c0, c1, c2, s1, p1, c3, n1⟩ := (hat2.below hbel hb2) q _ hy
          simp only at c0 c1 c2 c3 n1 hoc hgo
          have hstep : r.take (q + 1) = r.take q ++ [((ya, yb), (yn, yl))] := by rw [List.take_add_one, hy]; rfl
          obtain ⟨Wa, hWa⟩ : ∃ Wa : World, Wa = w2.alloc (.cells #[.int .i64 ya, .string yb, .int .i64 yn, .slice s1 yl.length p1] 67) := ⟨_, rfl⟩
          have hba : Below w2.heap.size w2 Wa := by rw [hWa]; exact (Below.refl _ _).alloc (Nat.le_refl _) _
          have B4 : Blk4 Wa w2.heap.size (.int .i64 ya) (.string yb) (.int .i64 yn) (.slice s1 yl.length p1) := by rw [hWa]; exact Blk4.new w2 _ _ _ _
          obtain ⟨a0, a1, a2, a3, -⟩ := B4.cells
          have HA := hidM hWa.symm
          obtain ⟨gk1, gk2⟩ := gatOk HL.out ((L.take k).flatten ++ r.take q) (fun x hx => by
            rcases List.mem_append.1 hx with hx | hx
            · exact flat_mem hx
            · exact ⟨r, List.mem_of_getElem? hr, List.mem_of_mem_take hx⟩)
          have HAD := hidM (add_any gp mp w.heap.size (n + q) agg bound _ ((ya, yb), (yn, yl)) _ Wa (hG.below hba) (Nat.le_trans hsz2 hba.size) (by omega) hgo ⟨s1, p1, rfl, n1.below hba⟩ hoc.2.2 (rise_gat _ _) hoc.1 hoc.2.1 gk1)
          rw [← gat_snoc, List.append_assoc, ← hstep] at HAD
          have HBW := hidM (hbel.trans (hba.mono hsz2))
          clear hWa hba B4 hG hbel hat2 n1 gk1 gk2 hoc hgo hstep hy hym
          go_wp2_with (go_at_call 34; rw [HA.out]; refine HAD.out.mono ?_; rintro e W7 ⟨rfl, hG7, hb7⟩)
          go_roundw
          case rel => exact ⟨q + 1, by omega, by go_num, hG7, HBW.out.trans hb7⟩
          case measure => simp [intOf]; omega
        · have hql' : r.length ≤ q := by omega
          rw [List.take_of_length_le hql', ← hfs] at hG
          obtain ⟨D, hom, hDs⟩ := hG.len_run
          have hle : (gat (joinC agg bound.toNat) (L.take (k + 1)).flatten).1.length ≤ 1536 := by
            obtain ⟨m, hm⟩ := flat_take L (k + 1)
            have := len_mono (joinC agg bound.toNat) (L.take (k + 1)).flatten m
            rw [← hm] at this
            have := HLEN.out
            omega
          obtain ⟨z, hz⟩ : ∃ z, z = (gat (joinC agg bound.toNat) (L.take (k + 1)).flatten).1.length := ⟨_, rfl⟩
          rw [← hz] at hDs hle
          have hzi : ¬ ((1536 : Int) < (z : Int)) := by omega
          obtain ⟨x0, x1, x2, x3, x4⟩ := hG.cells
          have HG2 := hidM hG
          have HB2 := hidM hbel
          have HOM := hidM hom
          have HDS := hidM hDs
          clear hG hbel hom hDs hz
          go_wp2_with (at_len; refine wpList_len_own _ rfl _ 71 rfl 52 60 Try.underlying71 RC mp _ D rfl HOM.out ?_; rw [HDS.out])
          go_roundw
          case rel => exact ⟨k + 1, n + q, by omega, by go_num, by omega, HG2.out, HB2.out⟩
          case measure => simp [intOf]; omega
    · have hlt' : L.length ≤ k := by omega
      rw [List.take_of_length_le hlt'] at hG
      obtain ⟨gk1, gk2⟩ := gatOk HL.out L.flatten (fun x hx => List.mem_flatten.1 hx)
      have HR := hidM (rows_any gp mp w.heap.size n agg bound _ w0 hG hsz (rise_gat _ _) gk2 (by have := HLEN.out; omega))
      have HBEL := hidM hbel
      clear hG hbel gk1 gk2
      go_wp2_with (go_at_call 35; refine HR.out.mono ?_; rintro e w' ⟨⟨v', rfl, ho⟩, hb'⟩)
      go_ret2
      exact ⟨⟨_, rfl, ho⟩, HBEL.out.trans hb'⟩
end Go.Proofs.Yticpaemmdfmbfaa
/- What runs of rows come to. -/
namespace Go.Proofs.Yticpaemmdfmbfaa
open Go.RowKit
set_option linter.unusedVariables false
set_option maxRecDepth 100000

def joinRes (agg bound : Int) (L : List (List Rw)) : List Rw × Int :=
  if wayC agg bound && L.all (okRows agg bound) && decide ((gat (joinC agg bound.toNat) L.flatten).1.length ≤ 1536) then fin (gat (joinC agg bound.toNat) L.flatten) else ([], 1)
theorem joinRes_way {agg bound : Int} {L : List (List Rw)} (h : wayC agg bound = false) : joinRes agg bound L = ([], 1) := by unfold joinRes; rw [h, Bool.false_and, Bool.false_and]; rfl
theorem joinRes_bad {agg bound : Int} {L : List (List Rw)} {r : List Rw} (hr : r ∈ L) (h : okRows agg bound r = false) : joinRes agg bound L = ([], 1) := by
  have : L.all (okRows agg bound) = false := by
    cases he : L.all (okRows agg bound) with
    | false => rfl
    | true => rw [List.all_eq_true] at he; rw [he r hr] at h; cases h
  unfold joinRes
  rw [this, Bool.and_false, Bool.false_and]
  rfl
theorem joinRes_big {agg bound : Int} {L : List (List Rw)} {k : Nat} (h : 1536 < (gat (joinC agg bound.toNat) (L.take k).flatten).1.length) : joinRes agg bound L = ([], 1) := by
  obtain ⟨m, hm⟩ := flat_take L k
  have := len_mono (joinC agg bound.toNat) (L.take k).flatten m
  rw [← hm] at this
  unfold joinRes
  rw [decide_eq_false (by omega), Bool.and_false]
  rfl
theorem joinRes_ok {agg bound : Int} {L : List (List Rw)} (hw : wayC agg bound = true) (h : ∀ r ∈ L, okRows agg bound r = true) (hl : (gat (joinC agg bound.toNat) L.flatten).1.length ≤ 1536) : joinRes agg bound L = fin (gat (joinC agg bound.toNat) L.flatten) := by
  unfold joinRes
  rw [hw, List.all_eq_true.2 h, decide_eq_true hl]
  rfl
theorem chk_len {agg bound : Int} {c : Cl} (h : chk agg bound c = true) : c.2.length ≤ 32 := by
  unfold chk at h
  rw [Bool.and_eq_true] at h
  obtain ⟨hw, hm⟩ := h
  by_cases h6 : agg = 6
  · subst h6
    rw [may6, Bool.and_eq_true, Bool.and_eq_true, decide_eq_true_eq, decide_eq_true_eq] at hm
    unfold wayC at hw
    rw [if_pos rfl, decide_eq_true_eq] at hw
    have := hm.1.2
    omega
  · by_cases h2 : agg = 2
    · subst h2
      rw [may2, Bool.and_eq_true, Bool.and_eq_true, decide_eq_true_eq] at hm
      omega
    · rw [mayN h6 h2, decide_eq_true_eq] at hm
      omega
theorem runOk_of {agg bound : Int} {l : List Rw} (h : okRows agg bound l = true) (hw : WfRs l) : RunOk agg bound l := by
  obtain ⟨-, -, h3, -⟩ := okRows_parts h
  exact ⟨h, fun r hr => ⟨(h3 r hr).2, (hw r hr).c, chk_len (h3 r hr).2⟩, fun r hr => ⟨(hw r hr).k.1, by have := (h3 r hr).1; unfold maxLen; omega⟩⟩
end Go.Proofs.Yticpaemmdfmbfaa
