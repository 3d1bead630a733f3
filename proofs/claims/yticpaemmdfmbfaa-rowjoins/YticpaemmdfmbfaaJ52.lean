/- The page's own Rows, distinct, JoinRows. -/
import Derived.Test.YticpaemmdfmbfaaJ46
import Derived.Test.YticpaemmdfmbfaaJ49
import Derived.Test.YticpaemmdfmbfaaJ50
import Derived.Test.YticpaemmdfmbfaaJ42
import Derived.Test.YticpaemmdfmbfaaJ51
namespace Go.Proofs.Yticpaemmdfmbfaa
open Go.RowKit
set_option linter.unusedVariables false
set_option maxRecDepth 100000

theorem way_nat {agg bound : Int} (h : wayC agg bound = true) : ∃ bd : Nat, bound = (bd : Int) := by
  have h0 : 0 ≤ bound := by
    unfold wayC at h
    split at h
    · rw [decide_eq_true_eq] at h; omega
    · rw [decide_eq_true_eq] at h; omega
  exact ⟨bound.toNat, by omega⟩
set_option maxHeartbeats 800000 in
theorem rrows_any (agg bound : Int) (v : Value) (l : List Rw) (w : World) (h : WS w v l) (hw : wayC agg bound = true) (hl : l.length ≤ 100000) (hls : ∀ r ∈ l, r.2.2.length ≤ 100000) :
    Calls Try.prog 41 #[.int .i64 agg, .int .i64 bound, v] w (BoolR w (okRows agg bound l)) := by
  have HORD := hidM (fun W (hW : Below w.heap.size w W) => rordered_any v l W (h.below hW) hl)
  have HWAY := hidM hw
  obtain ⟨bd, rfl⟩ := way_nat hw
  obtain ⟨va, vc, rfl, hsh⟩ := h
  by_cases hm : l.length ≤ 1536
  · have hmi : ¬ (1536 : Int) < (l.length : Int) := by omega
    clear hw
    go_enter Try.func41, Try.ntmps41
    go_wp2
    go_loopw [7] (fun i wr => ∃ k : Nat, k ≤ l.length ∧ i = .int .i64 k ∧ Hid (∀ r ∈ l.take k, mayC agg bd r.2 = true) ∧ Below w.heap.size w wr) (fun i _ => l.length - (intOf i).toNat)
    case atStart => exact ⟨0, by omega, rfl, hidM (fun r hr => by simp at hr), Below.refl _ _⟩
    case round =>
      rename World => w0
      obtain ⟨k, hk, rfl, HM, hbel⟩ := hrel
      have hsz := hbel.size
      by_cases hlt : k < l.length
      · obtain ⟨⟨⟨ya, yb⟩, yn, yl⟩, hy⟩ := getSome hlt
        rcases hsh with rfl | ⟨b, off, rfl, hb, hat⟩
        · simp at hlt
        obtain ⟨c0, c1, c2, s1, p1, c3, n1⟩ := (hat.below hbel hb) k _ hy
        simp only at c0 c1 c2 c3 n1
        have HC := hidM (rcell_any agg bd _ (yn, yl) w0 ⟨s1, p1, rfl, n1⟩ (hls _ (List.mem_of_getElem? hy)))
        have HBEL := hidM hbel
        cases hmc : mayC agg bd (yn, yl) with
        | true =>
          rw [hmc] at HC
          have HM2 := hidM (show ∀ r ∈ l.take (k + 1), mayC agg bd r.2 = true from fun r hr => by
            rw [List.take_add_one, hy] at hr
            rcases List.mem_append.1 hr with hr | hr
            · exact HM.out r hr
            · simp at hr; subst hr; exact hmc)
          clear hat hbel hy n1 hmc HM
          go_wp2_with (go_at_call 58; refine HC.out.mono ?_; rintro e W1 ⟨rfl, hb1⟩)
          go_roundw
          case rel => exact ⟨k + 1, by omega, by go_num, HM2, nxt HBEL.out hb1⟩
          case measure => simp [intOf]; omega
        | false =>
          rw [hmc] at HC
          have HF := hidM (okRows_cell (agg := agg) (bound := (bd : Int)) (List.mem_of_getElem? hy) (by rw [Int.toNat_natCast]; exact hmc))
          clear hat hbel hy n1 hmc HM
          go_wp2_with (go_at_call 58; refine HC.out.mono ?_; rintro e W1 ⟨rfl, hb1⟩)
          go_ret
          exact ⟨by rw [HF.out]; rfl, nxt HBEL.out hb1⟩
      · have hlt' : l.length ≤ k := by omega
        have HMF := HM.out
        rw [List.take_of_length_le hlt'] at HMF
        have HF := hidM (okRows_ord HWAY.out (by rw [Int.toNat_natCast]; exact HMF))
        have HO := hidM (HORD.out w0 hbel)
        have HBEL := hidM hbel
        generalize ordB l = ok at HO HF
        clear hbel HMF HM HORD
        go_wp2_with (go_at_call 59; refine HO.out.mono ?_; rintro e W1 ⟨rfl, hb1⟩)
        go_ret
        exact ⟨by rw [HF.out]; rfl, nxt HBEL.out hb1⟩
  · have hmi : (1536 : Int) < (l.length : Int) := by omega
    have HF := hidM (okRows_big (agg := agg) (bound := (bd : Int)) hm)
    clear hw
    go_enter Try.func41, Try.ntmps41
    go_wp2
    go_ret
    exact ⟨by rw [HF.out]; rfl, Below.refl _ _⟩
theorem map_take_snoc {l : List Rw} {k : Nat} {r : Rw} (h : l[k]? = some r) : (l.map (·.1)).take (k + 1) = (l.map (·.1)).take k ++ [r.1] := by
  rw [List.take_add_one, List.getElem?_map, h]
  rfl
set_option maxHeartbeats 800000 in
theorem rdistinct_any (v : Value) (l : List Rw) (w : World) (h : WS w v l) (hl : l.length ≤ 100000) :
    Calls Try.prog 42 #[v] w fun e w' => (∃ n : Nat, e = .returned (.int .i64 n) ∧ ∀ J, n = (gat J l).1.length) ∧ Below w.heap.size w w' := by
  obtain ⟨i0, hi, hz0, hz1, hz2⟩ := info_parts Try.infoKey
  obtain ⟨va, vc, rfl, hsh⟩ := h
  go_enter Try.func42, Try.ntmps42
  go_wp2
  go_loopw [3, 4] (fun m i wr => ∃ k : Nat, k ≤ l.length ∧ i = .int .i64 k ∧ OwnK wr w.heap.size m ((l.map (·.1)).take k) ∧ Below w.heap.size w wr) (fun _ i _ => l.length - (intOf i).toNat)
  case atStart => exact ⟨0, by omega, rfl, World.ownsRow_nil _ _ _ _, Below.refl _ _⟩
  case round =>
    rename World => w0
    obtain ⟨k, hk, rfl, hown, hbel⟩ := hrel
    have hsz := hbel.size
    by_cases hlt : k < l.length
    · obtain ⟨⟨⟨ya, yb⟩, yn, yl⟩, hy⟩ := getSome hlt
      rcases hsh with rfl | ⟨b, off, rfl, hb, hat⟩
      · simp at hlt
      obtain ⟨c0, c1, -⟩ := (hat.below hbel hb) k _ hy
      simp only at c0 c1
      have hstep := map_take_snoc hy
      have hlk : ((l.map (·.1)).take k).length = k := by simp; omega
      have HBEL := hidM hbel
      clear hy hat hbel
      generalize (l.map (·.1)).take k = ks at hown hstep hlk
      have HOWN := hidM hown
      go_wp2_with (at_builtin; refine wpList_append_own _ rfl _ _ 94 rfl w.heap.size 52 i0 _ 2 24 Try.underlying94 hi hz0 hz1 hz2 rfl (by decide) _ _ _ rfl (HOWN.out.alloc _) ⟨w0.heap.size, 0, none⟩ 1 1 [.int .i64 ya, .string yb] rfl rfl (cell_key_new _ _ _ _) (key_cells _ _) ?c3 ?c4 ?c5 ?_)
      case c3 => unfold maxLen; omega
      case c4 => omega
      case c5 => first | omega | (simp; omega)
      intro v2 w2 hown2 hgrow2 _
      have hbel2 : Below w.heap.size w w2 := (HBEL.out.alloc hsz _).grown hgrow2 (by simp; omega) (own_row HOWN.out)
      have hown3 : OwnK w2 w.heap.size v2 ((l.map (·.1)).take (k + 1)) := by rw [hstep]; exact OwnK.snoc (x := (ya, yb)) hown2 hlk.symm
      have HO3 := hidM hown3
      clear hown2 hgrow2 hown hown3 c0 c1
      go_wp2
      go_roundw
      case rel => exact ⟨k + 1, by omega, by go_num, HO3.out, hbel2⟩
      case measure => simp [intOf]; omega
    · have hlt' : l.length ≤ k := by omega
      rw [List.take_of_length_le (by rw [List.length_map]; exact hlt')] at hown
      have HC := hidM (rcount_any _ _ w0 (KS.own hown) (by rw [List.length_map]; exact hl))
      have HBEL := hidM hbel
      obtain ⟨xa, xc, rfl, -⟩ := KS.own hown
      rw [List.length_map] at HC
      clear hown hbel
      go_wp2_with (go_at_call 60; refine HC.out.mono ?_; rintro e W1 ⟨v1, v2, ks, ms, rfl, hcnt, hok, hon, hb1⟩; obtain ⟨a1, p1, rfl, -⟩ := KS.own hok; obtain ⟨a2, p2, rfl⟩ := hon.shape)
      have HN := hidM hcnt
      clear hcnt
      go_ret
      have hcnt := HN.out
      exact ⟨⟨ks.length, rfl, fun J => keys_len hcnt.1 (fun x => by rw [hcnt.2.1, List.mem_map])⟩, nxt HBEL.out hb1⟩
set_option maxHeartbeats 1600000 in
theorem rjoins_any (agg bound : Int) (v : Value) (L : List (List Rw)) (w : World) (h : RnS w v L) (hL : ∀ l ∈ L, WfRs l) (hl : L.length ≤ 100) (hls : ∀ l ∈ L, l.length ≤ 10000 ∧ ∀ r ∈ l, r.2.2.length ≤ 100000) (hfl : L.flatten.length ≤ 100000) :
    Calls Try.prog 20 #[.int .i64 agg, .int .i64 bound, v] w (RowsR w w.heap.size (joinRes agg bound L)) := by
  have H1 := hidM (fun W => way_any agg bound W)
  obtain ⟨va, vc, rfl, hsh⟩ := h
  cases hw : wayC agg bound with
  | false =>
    rw [hw] at H1
    rw [joinRes_way hw]
    go_enter Try.func20, Try.ntmps20
    go_wp2_with (go_at_call 36; refine (H1.out _).mono ?_; rintro e W1 ⟨rfl, rfl⟩)
    go_ret2
    exact ⟨⟨_, rfl, OwnW.nil _ _⟩, Below.refl _ _⟩
  | true =>
  rw [hw] at H1
  have HWAY := hidM hw
  have HL := hidM hL
  have HLS := hidM hls
  have HFL := hidM hfl
  clear hw hL hls hfl
  go_enter Try.func20, Try.ntmps20
  go_wp2_with (go_at_call 36; refine (H1.out _).mono ?_; rintro e w ⟨rfl, rfl⟩)
  go_loopw [8, 9] (fun vo i wr => ∃ k : Nat, k ≤ L.length ∧ i = .int .i64 k ∧ Hid (∀ l ∈ L.take k, okRows agg bound l = true) ∧ OwnA w wr vo (L.take k).flatten ∧ Below w.heap.size w wr) (fun _ i _ => L.length - (intOf i).toNat)
  case atStart => exact ⟨0, by omega, rfl, hidM (fun l hl => by simp at hl), OwnA.nil _ _, Below.refl _ _⟩
  case round =>
    rename World => w0
    obtain ⟨k, hk, rfl, HOK, hown, hbel⟩ := hrel
    have hsz := hbel.size
    by_cases hlt : k < L.length
    · obtain ⟨r, hr⟩ := getSome hlt
      rcases hsh with rfl | ⟨b, off, rfl, hb, hat⟩
      · simp at hlt
      have hrm := List.mem_of_getElem? hr
      obtain ⟨u, hu0, hws, -⟩ := hat k r hr
      have hu := (hbel.cell (p := ⟨b, off + k, none⟩) hb).trans hu0
      have HC := hidM (rrows_any agg bound u r w0 (hws.below hbel) HWAY.out (by have := (HLS.out r hrm).1; omega) (HLS.out r hrm).2)
      have HBEL := hidM hbel
      have HU := hidM (show ∀ W, Below w.heap.size w W → W.cell? ⟨b, off + k, none⟩ = some u from fun W hW => (hW.cell (p := ⟨b, off + k, none⟩) hb).trans hu0)
      cases hokr : okRows agg bound r with
      | false =>
        rw [hokr] at HC
        have HF := hidM (joinRes_bad (agg := agg) (bound := bound) hrm hokr)
        obtain ⟨ua, uc, rfl, -⟩ := hws
        clear hat hbel hown hokr HOK
        go_wp2_with (go_at_call 41; refine HC.out.mono ?_; rintro e W1 ⟨rfl, hb1⟩)
        go_ret2
        exact ⟨⟨.slice none 0 0, by rw [HF.out]; rfl, by rw [HF.out]; exact OwnW.nil _ _⟩, nxt HBEL.out hb1⟩
      | true =>
        rw [hokr] at HC
        have HRO := hidM (show ∀ l ∈ L.take (k + 1), okRows agg bound l = true from fun l hl => by
          rw [List.take_add_one, hr] at hl
          rcases List.mem_append.1 hl with hl | hl
          · exact HOK.out l hl
          · simp at hl; subst hl; exact hokr)
        have hlen : (L.take k).flatten.length + r.length ≤ 1000000 := by
          obtain ⟨m, hm⟩ := flat_take L (k + 1)
          have h1 := HFL.out
          rw [hm, flat_snoc hr, List.length_append, List.length_append] at h1
          omega
        have HT := hidM (show ∀ W, Below w0.heap.size w0 W → ∃ v4 W4, (Builtin.append_ #[28, 28] 28 #[u8, u]).run Try.prog W = .ok v4 W4 ∧ OwnA w W4 v4 (L.take (k + 1)).flatten ∧ Below w.heap.size w W4 from fun W hW => by
          obtain ⟨xs, hx, ha⟩ := hown
          obtain ⟨v4, W4, q1, q2, q3⟩ := OwnA.app 28 ⟨xs, hx.below hW, ha⟩ (nxt hbel hW) hws hlen
          rw [← flat_snoc hr] at q2
          exact ⟨v4, W4, q1, q2, q3⟩)
        obtain ⟨ua, uc, rfl, -⟩ := id hws
        clear hat hbel hown hokr HOK hws hlen
        go_wp2_with (first
          | (go_at_call 41; refine HC.out.mono ?_; rintro e W1 ⟨rfl, hb1⟩; obtain ⟨v4, W4, u1, hown4, hbel4⟩ := HT.out W1 hb1; have U1 := hidM u1; have HO4 := hidM hown4; clear u1 hown4; have cu := HU.out W1 (nxt HBEL.out hb1))
          | (at_builtin; refine wpList_append_run _ rfl _ _ _ rfl _ _ v4 W4 rfl rfl U1.out ?_))
        go_roundw
        case rel => exact ⟨k + 1, by omega, by go_num, HRO, HO4.out, hbel4⟩
        case measure => simp [intOf]; omega
    · have hlt' : L.length ≤ k := by omega
      have HOKL := hidM HOK.out
      rw [List.take_of_length_le hlt'] at hown HOKL
      have HFT := hidM (fun r (hr : r ∈ L.flatten) => List.mem_flatten.1 hr)
      generalize hF : L.flatten = F at hown HFL HFT
      have HFE := hidM hF
      clear hF
      have HD := hidM (rdistinct_any _ _ w0 (hown.ws hbel) HFL.out)
      have HOWN := hidM hown
      have HBEL := hidM hbel
      have HG := hidM (fun W (hW : Below w0.heap.size w0 W) => rgather_any agg bound _ F W ((hown.ws hbel).below hW) ⟨fun r hr => by
        obtain ⟨l, hl, hrl⟩ := HFT.out r hr
        exact (runOk_of (HOKL.out l hl) (HL.out l hl)).cell r hrl⟩ HFL.out)
      obtain ⟨xa, xc, rfl, -⟩ := hown.ws hbel
      clear hown hbel HOK
      go_wp2_with fail
      refine HD.out.mono ?_
      rintro e W1 ⟨⟨n, rfl, hn⟩, hb1⟩
      have hn' := hn (joinC agg bound.toNat)
      clear hn
      by_cases hbig : n ≤ 1536
      · have hbi : ¬ (1536 : Int) < (n : Int) := by omega
        have HF := hidM (joinRes_ok HWAY.out HOKL.out (by rw [HFE.out]; omega))
        have HG2 := hidM (HG.out W1 hb1)
        have HSZ := hidM hb1.size
        clear hn' HG
        go_wp2_with (go_at_call 38; refine HG2.out.mono ?_; rintro e w' ⟨⟨v', rfl, ho'⟩, hb'⟩)
        go_ret2
        have hsz2 : w.heap.size ≤ W1.heap.size := by have := HSZ.out; omega
        exact ⟨⟨v', by rw [HF.out, HFE.out]; rfl, by rw [HF.out, HFE.out]; exact ho'.lower hsz2⟩, (nxt HBEL.out hb1).trans (hb'.mono hsz2)⟩
      · have hbi : (1536 : Int) < (n : Int) := by omega
        have HF := hidM (joinRes_big (agg := agg) (bound := bound) (L := L) (k := L.length) (by rw [List.take_length, HFE.out]; omega))
        clear hn' HG
        go_wp2
        go_ret2
        exact ⟨⟨.slice none 0 0, by rw [HF.out]; rfl, by rw [HF.out]; exact OwnW.nil _ _⟩, nxt HBEL.out hb1⟩
end Go.Proofs.Yticpaemmdfmbfaa
