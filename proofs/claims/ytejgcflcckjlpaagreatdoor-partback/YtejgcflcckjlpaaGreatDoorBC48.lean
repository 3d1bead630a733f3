/- Texts laid together: WJPlain, WJoinX. -/
import Derived.Test.YtejgcflcckjlpaaGreatDoorBC33M
import Derived.Test.YtejgcflcckjlpaaGreatDoorBC38
import Derived.Test.YtejgcflcckjlpaaGreatDoorBC36M
/- What runs of rows come to. -/
namespace Go.Proofs.YtejgcflcckjlpaaGreatDoor
open Go.RowKit
set_option linter.unusedVariables false
set_option maxRecDepth 100000

def joinRes (agg bound : Int) (L : List (List Rw)) : List Rw × Int :=
  if wayC agg bound && L.all (okRows agg bound) && decide ((gat (joinC agg bound.toNat) L.flatten).1.length ≤ 1536) then fin (gat (joinC agg bound.toNat) L.flatten) else ([], 1)
theorem joinRes_way {agg bound : Int} {L : List (List Rw)} (h : wayC agg bound = false) : joinRes agg bound L = ([], 1) := by unfold joinRes; rw [h, Bool.false_and, Bool.false_and]; rfl
theorem joinRes_bad {agg bound : Int} {L : List (List Rw)} {r : List Rw} (hr : r ∈ L) (h : okRows agg bound r = false) : joinRes agg bound L = ([], 1) := by
  have : L.all (okRows agg bound) = false := by
    cases he : L.all (okRows agg bound) with
    | false => rfl
    | true => rw [List.all_eq_true] at he; rw [he r hr] at h; cases h
  unfold joinRes
  rw [this, Bool.and_false, Bool.false_and]
  rfl
theorem joinRes_big {agg bound : Int} {L : List (List Rw)} {k : Nat} (h : 1536 < (gat (joinC agg bound.toNat) (L.take k).flatten).1.length) : joinRes agg bound L = ([], 1) := by
  obtain ⟨m, hm⟩ := flat_take L k
  have := len_mono (joinC agg bound.toNat) (L.take k).flatten m
  rw [← hm] at this
  unfold joinRes
  rw [decide_eq_false (by omega), Bool.and_false]
  rfl
theorem joinRes_ok {agg bound : Int} {L : List (List Rw)} (hw : wayC agg bound = true) (h : ∀ r ∈ L, okRows agg bound r = true) (hl : (gat (joinC agg bound.toNat) L.flatten).1.length ≤ 1536) : joinRes agg bound L = fin (gat (joinC agg bound.toNat) L.flatten) := by
  unfold joinRes
  rw [hw, List.all_eq_true.2 h, decide_eq_true hl]
  rfl
theorem chk_len {agg bound : Int} {c : Cl} (h : chk agg bound c = true) : c.2.length ≤ 32 := by
  unfold chk at h
  rw [Bool.and_eq_true] at h
  obtain ⟨hw, hm⟩ := h
  by_cases h6 : agg = 6
  · subst h6
    rw [may6, Bool.and_eq_true, Bool.and_eq_true, decide_eq_true_eq, decide_eq_true_eq] at hm
    unfold wayC at hw
    rw [if_pos rfl, decide_eq_true_eq] at hw
    have := hm.1.2
    omega
  · by_cases h2 : agg = 2
    · subst h2
      rw [may2, Bool.and_eq_true, Bool.and_eq_true, decide_eq_true_eq] at hm
      omega
    · rw [mayN h6 h2, decide_eq_true_eq] at hm
      omega
theorem runOk_of {agg bound : Int} {l : List Rw} (h : okRows agg bound l = true) (hw : WfRs l) : RunOk agg bound l := by
  obtain ⟨-, -, h3, -⟩ := okRows_parts h
  exact ⟨h, fun r hr => ⟨(h3 r hr).2, (hw r hr).c, chk_len (h3 r hr).2⟩, fun r hr => ⟨(hw r hr).k.1, by have := (h3 r hr).1; unfold maxLen; omega⟩⟩
end Go.Proofs.YtejgcflcckjlpaaGreatDoor
/- row.Join of whatever runs. -/
namespace Go.Proofs.YtejgcflcckjlpaaGreatDoor
open Go.RowKit Go.Maps
set_option linter.unusedVariables false
set_option maxRecDepth 100000

set_option maxHeartbeats 2000000 in
theorem joins_any (agg bound : Int) (v : Value) (L : List (List Rw)) (w : World) (h : RnS w v L) (hL : ∀ l ∈ L, WfRs l) (hl : L.length ≤ 100) (hls : ∀ l ∈ L, l.length ≤ 100000 ∧ ∀ r ∈ l, r.2.2.length ≤ 100000) :
    Calls Tryz.prog 28 #[.int .i64 agg, .int .i64 bound, v] w (RowsR w w.heap.size (joinRes agg bound L)) := by
  have H1 := hidM (fun W => rway_any agg bound W)
  cases hw : wayC agg bound with
  | false =>
    rw [hw] at H1
    rw [joinRes_way hw]
    obtain ⟨va, vc, rfl, -⟩ := h
    go_enter Tryz.func28, Tryz.ntmps28
    go_wp2_with (go_at_call 35; refine (H1.out _).mono ?_; rintro e W1 ⟨rfl, hb1⟩)
    go_ret2
    exact ⟨⟨_, rfl, OwnW.nil _ _⟩, hb1⟩
  | true =>
  rw [hw] at H1
  have H3 := hidM (fun W (hW : w.heap.size ≤ W.heap.size) => newG_any agg bound w.heap.size W hW)
  obtain ⟨va, vc, rfl, hsh⟩ := h
  have HL := hidM hL
  have HLS := hidM hls
  have HWAY := hidM hw
  clear hL hls hw
  go_enter Tryz.func28, Tryz.ntmps28
  go_wp2_with (go_at_call 35; refine (H1.out _).mono ?_; rintro e W1 ⟨rfl, hb1⟩)
  go_wp2_with (go_at_call 46; refine (H3.out _ hb1.size).mono ?_; rintro e W3 ⟨rfl, hG3, hb3⟩)
  have hb3' := nxt hb1 hb3
  clear hb1 hb3
  generalize W1.heap.size + 1 = gp at hG3 ⊢
  generalize W1.heap.size = mp at hG3
  clear W1 H1 H3
  go_loopw [23] (fun i wr => ∃ k n : Nat, k ≤ L.length ∧ i = .int .i64 k ∧ n ≤ 1536 * k ∧ Hid ((∀ l ∈ L.take k, okRows agg bound l = true) ∧ (gat (joinC agg bound.toNat) (L.take k).flatten).1.length ≤ 1536) ∧ Gat wr w.heap.size gp mp agg bound (gat (joinC agg bound.toNat) (L.take k).flatten).1 (gat (joinC agg bound.toNat) (L.take k).flatten).2 n ∧ Below w.heap.size w wr) (fun i _ => L.length - (intOf i).toNat)
  case atStart => exact ⟨0, 0, by omega, rfl, by omega, hidM ⟨fun l hl => by simp at hl, by simp [gat_nil]⟩, hG3, hb3'⟩
  case round =>
    clear hG3 hb3'
    rename World => w0
    obtain ⟨k, n, hk, rfl, hn, HOK, hG, hbel⟩ := hrel
    have hsz := hbel.size
    by_cases hlt : k < L.length
    · obtain ⟨r, hr⟩ := getSome hlt
      rcases hsh with rfl | ⟨b, off, rfl, hb, hat⟩
      · simp at hlt
      have hrm := List.mem_of_getElem? hr
      obtain ⟨u, hu0, hws, hcap⟩ := hat k r hr
      have hu := (hbel.cell (p := ⟨b, off + k, none⟩) hb).trans hu0
      have HC := hidM (rcheck_any agg bound u r w0 (hws.below hbel) (HLS.out r hrm).1 (HLS.out r hrm).2 hcap)
      cases hokr : okRows agg bound r with
      | false =>
        rw [hokr, show errC false = 1 from rfl] at HC
        have HF := hidM (joinRes_bad (agg := agg) (bound := bound) hrm hokr)
        have HBEL := hidM hbel
        obtain ⟨ua, uc, rfl, -⟩ := hws
        clear hat hbel hG hcap HOK hokr
        go_wp2_with (go_at_call 20; refine HC.out.mono ?_; rintro e W1 ⟨rfl, hb1⟩)
        go_ret2
        exact ⟨⟨.slice none 0 0, by rw [HF.out]; rfl, by rw [HF.out]; exact OwnW.nil _ _⟩, nxt HBEL.out hb1⟩
      | true =>
      rw [hokr, show errC true = 0 from rfl] at HC
      have hro := runOk_of hokr (HL.out r hrm)
      have hrl : r.length ≤ 1536 := (okRows_parts hokr).2.1
      have HRO := hidM (show ∀ l ∈ L.take (k + 1), okRows agg bound l = true from fun l hl => by
        rw [List.take_add_one, hr] at hl
        rcases List.mem_append.1 hl with hl | hl
        · exact HOK.out.1 l hl
        · simp at hl; subst hl; exact hokr)
      have HRK := hidM (show ∀ l ∈ L.take (k + 1), RunOk agg bound l from fun l hl => runOk_of (HRO.out l hl) (HL.out l (List.mem_of_mem_take hl)))
      have HMT := hidM (show ∀ x ∈ (L.take k).flatten, ∃ l ∈ L.take (k + 1), x ∈ l from fun x hx => by
        obtain ⟨l, hl, hxl⟩ := List.mem_flatten.1 hx
        exact ⟨l, by rw [List.take_add_one]; exact List.mem_append.2 (.inl hl), hxl⟩)
      have HRM := hidM (show r ∈ L.take (k + 1) by rw [List.take_add_one, hr]; simp)
      clear hokr
      obtain ⟨ua, uc, rfl, hush⟩ := hws
      have hfs := flat_snoc hr
      have HBEL := hidM hbel
      have HG := hidM hG
      have HUS := hidM hush
      clear hat hbel hG hush hcap
      go_wp2_with (go_at_call 20; refine HC.out.mono ?_; rintro e W1 ⟨rfl, hb1⟩)
      go_loopw [36] (fun i wr => ∃ q : Nat, q ≤ r.length ∧ i = .int .i64 q ∧ Gat wr w.heap.size gp mp agg bound (gat (joinC agg bound.toNat) ((L.take k).flatten ++ r.take q)).1 (gat (joinC agg bound.toNat) ((L.take k).flatten ++ r.take q)).2 (n + q) ∧ Below w.heap.size w wr) (fun i _ => r.length - (intOf i).toNat)
      case atStart => exact ⟨0, by omega, rfl, by rw [List.take_zero, List.append_nil]; exact HG.out.below hb1, nxt HBEL.out hb1⟩
      case round =>
        clear hb1
        rename World => w2
        obtain ⟨q, hq, rfl, hG, hbel⟩ := hrel
        have hsz2 := hbel.size
        by_cases hql : q < r.length
        · obtain ⟨⟨⟨ya, yb⟩, yn, yl⟩, hy⟩ := getSome hql
          have hym := List.mem_of_getElem? hy
          have hoc := hro.cell _ hym
          have hgo := hro.key _ hym
          rcases HUS.out with rfl | ⟨b2, off2, rfl, hb2, hat2⟩
          · simp at hql
          obtain ⟨c0, c1, c2, s1, p1, c3, n1⟩ := (hat2.below hbel hb2) q _ hy
          simp only at c0 c1 c2 c3 n1 hoc hgo
          have hstep : r.take (q + 1) = r.take q ++ [((ya, yb), (yn, yl))] := by rw [List.take_add_one, hy]; rfl
          obtain ⟨Wa, hWa⟩ : ∃ Wa : World, Wa = w2.alloc (.cells #[.int .i64 ya, .string yb, .int .i64 yn, .slice s1 yl.length p1] 47) := ⟨_, rfl⟩
          have hba : Below w2.heap.size w2 Wa := by rw [hWa]; exact (Below.refl _ _).alloc (Nat.le_refl _) _
          have B4 : Blk4 Wa w2.heap.size (.int .i64 ya) (.string yb) (.int .i64 yn) (.slice s1 yl.length p1) := by rw [hWa]; exact Blk4.new w2 _ _ _ _
          obtain ⟨a0, a1, a2, a3, -⟩ := B4.cells
          have HA := hidM hWa.symm
          obtain ⟨gk1, gk2⟩ := gatOk HRK.out ((L.take k).flatten ++ r.take q) (fun x hx => by
            rcases List.mem_append.1 hx with hx | hx
            · exact HMT.out x hx
            · exact ⟨r, HRM.out, List.mem_of_mem_take hx⟩)
          have HAD := hidM (add_any gp mp w.heap.size (n + q) agg bound _ ((ya, yb), (yn, yl)) _ Wa (hG.below hba) (Nat.le_trans hsz2 hba.size) (by omega) hgo ⟨s1, p1, rfl, n1.below hba⟩ hoc.2.2 (rise_gat _ _) hoc.1 hoc.2.1 gk1)
          rw [← gat_snoc, List.append_assoc, ← hstep] at HAD
          have HBW := hidM (hbel.trans (hba.mono hsz2))
          clear hWa hba B4 hG hbel hat2 n1 gk1 gk2 hoc hgo hstep hy hym
          go_wp2_with (go_at_call 47; rw [HA.out]; refine HAD.out.mono ?_; rintro e W7 ⟨rfl, hG7, hb7⟩)
          go_roundw
          case rel => exact ⟨q + 1, by omega, by go_num, hG7, HBW.out.trans hb7⟩
          case measure => simp [intOf]; omega
        · have hql' : r.length ≤ q := by omega
          rw [List.take_of_length_le hql', ← hfs] at hG
          obtain ⟨D, hom, hDs⟩ := hG.len_run
          obtain ⟨z, hz⟩ : ∃ z, z = (gat (joinC agg bound.toNat) (L.take (k + 1)).flatten).1.length := ⟨_, rfl⟩
          rw [← hz] at hDs
          have HZ := hidM hz
          by_cases hle : 1536 < z
          · have hzi : (1536 : Int) < (z : Int) := by omega
            have HF := hidM (joinRes_big (agg := agg) (bound := bound) (L := L) (k := k + 1) (by omega))
            obtain ⟨x0, x1, x2, x3, x4⟩ := hG.cells
            have HB2 := hidM hbel
            have HOM := hidM hom
            have HDS := hidM hDs
            clear hG hbel hom hDs hz
            go_wp2_with (at_len; refine wpList_len_own _ rfl _ 94 rfl 42 45 Tryz.underlying94 RC mp _ D rfl HOM.out ?_; rw [HDS.out])
            go_ret2
            exact ⟨⟨.slice none 0 0, by rw [HF.out]; rfl, by rw [HF.out]; exact OwnW.nil _ _⟩, HB2.out⟩
          · have hzi : ¬ ((1536 : Int) < (z : Int)) := by omega
            have HOK2 := hidM (show (∀ l ∈ L.take (k + 1), okRows agg bound l = true) ∧ (gat (joinC agg bound.toNat) (L.take (k + 1)).flatten).1.length ≤ 1536 from ⟨HRO.out, by have := HZ.out; omega⟩)
            obtain ⟨x0, x1, x2, x3, x4⟩ := hG.cells
            have HG2 := hidM hG
            have HB2 := hidM hbel
            have HOM := hidM hom
            have HDS := hidM hDs
            clear hG hbel hom hDs hz
            go_wp2_with (at_len; refine wpList_len_own _ rfl _ 94 rfl 42 45 Tryz.underlying94 RC mp _ D rfl HOM.out ?_; rw [HDS.out])
            go_roundw
            case rel => exact ⟨k + 1, n + q, by omega, by go_num, by omega, HOK2, HG2.out, HB2.out⟩
            case measure => simp [intOf]; omega
    · have hlt' : L.length ≤ k := by omega
      have HOKL := hidM HOK.out
      rw [List.take_of_length_le hlt'] at hG HOKL
      have HF := hidM (joinRes_ok HWAY.out HOKL.out.1 HOKL.out.2)
      obtain ⟨gk1, gk2⟩ := gatOk (fun l hl => runOk_of (HOKL.out.1 l hl) (HL.out l hl)) L.flatten (fun x hx => List.mem_flatten.1 hx)
      have HR := hidM (rows_any gp mp w.heap.size n agg bound _ w0 hG hsz (rise_gat _ _) gk2 (by have := HOKL.out.2; omega))
      have HBEL := hidM hbel
      clear hG hbel gk1 gk2
      go_wp2_with (go_at_call 48; refine HR.out.mono ?_; rintro e w' ⟨⟨v', rfl, ho⟩, hb'⟩)
      go_ret2
      exact ⟨⟨v', by rw [HF.out]; rfl, by rw [HF.out]; exact ho⟩, HBEL.out.trans hb'⟩
end Go.Proofs.YtejgcflcckjlpaaGreatDoor
