/- The page's own Rows, distinct, JoinRows. -/
import Derived.Test.YtejgcflcckjlpaaGreatDoorBC36M
import Derived.Test.YtejgcflcckjlpaaGreatDoorBC51
import Derived.Test.YtejgcflcckjlpaaGreatDoorBC52
import Derived.Test.YtejgcflcckjlpaaGreatDoorBC48
import Derived.Test.YtejgcflcckjlpaaGreatDoorBC53
namespace Go.Proofs.YtejgcflcckjlpaaGreatDoor
open Go.RowKit
set_option linter.unusedVariables false
set_option maxRecDepth 100000

theorem way_nat {agg bound : Int} (h : wayC agg bound = true) : ∃ bd : Nat, bound = (bd : Int) := by
  have h0 : 0 ≤ bound := by
    unfold wayC at h
    split at h
    · rw [decide_eq_true_eq] at h; omega
    · rw [decide_eq_true_eq] at h; omega
  exact ⟨bound.toNat, by omega⟩
set_option maxHeartbeats 800000 in
theorem rrows_any (agg bound : Int) (v : Value) (l : List Rw) (w : World) (h : WS w v l) (hw : wayC agg bound = true) (hl : l.length ≤ 100000) (hls : ∀ r ∈ l, r.2.2.length ≤ 100000) :
    Calls Tryz.prog 6 #[.int .i64 agg, .int .i64 bound, v] w (BoolR w (okRows agg bound l)) := by
  have HORD := hidM (fun W (hW : Below w.heap.size w W) => rordered_any v l W (h.below hW) hl)
  have HWAY := hidM hw
  obtain ⟨bd, rfl⟩ := way_nat hw
  obtain ⟨va, vc, rfl, hsh⟩ := h
  by_cases hm : l.length ≤ 1536
  · have hmi : ¬ (1536 : Int) < (l.length : Int) := by omega
    clear hw
    go_enter Tryz.func6, Tryz.ntmps6
    go_wp2
    go_loopw [7] (fun i wr => ∃ k : Nat, k ≤ l.length ∧ i = .int .i64 k ∧ Hid (∀ r ∈ l.take k, mayC agg bd r.2 = true) ∧ Below w.heap.size w wr) (fun i _ => l.length - (intOf i).toNat)
    case atStart => exact ⟨0, by omega, rfl, hidM (fun r hr => by simp at hr), Below.refl _ _⟩
    case round =>
      rename World => w0
      obtain ⟨k, hk, rfl, HM, hbel⟩ := hrel
      have hsz := hbel.size
      by_cases hlt : k < l.length
      · obtain ⟨⟨⟨ya, yb⟩, yn, yl⟩, hy⟩ := getSome hlt
        rcases hsh with rfl | ⟨b, off, rfl, hb, hat⟩
        · simp at hlt
        obtain ⟨c0, c1, c2, s1, p1, c3, n1⟩ := (hat.below hbel hb) k _ hy
        simp only at c0 c1 c2 c3 n1
        have HC := hidM (rcell_any agg bd _ (yn, yl) w0 ⟨s1, p1, rfl, n1⟩ (hls _ (List.mem_of_getElem? hy)))
        have HBEL := hidM hbel
        cases hmc : mayC agg bd (yn, yl) with
        | true =>
          rw [hmc] at HC
          have HM2 := hidM (show ∀ r ∈ l.take (k + 1), mayC agg bd r.2 = true from fun r hr => by
            rw [List.take_add_one, hy] at hr
            rcases List.mem_append.1 hr with hr | hr
            · exact HM.out r hr
            · simp at hr; subst hr; exact hmc)
          clear hat hbel hy n1 hmc HM
          go_wp2_with (go_at_call 18; refine HC.out.mono ?_; rintro e W1 ⟨rfl, hb1⟩)
          go_roundw
          case rel => exact ⟨k + 1, by omega, by go_num, HM2, nxt HBEL.out hb1⟩
          case measure => simp [intOf]; omega
        | false =>
          rw [hmc] at HC
          have HF := hidM (okRows_cell (agg := agg) (bound := (bd : Int)) (List.mem_of_getElem? hy) (by rw [Int.toNat_natCast]; exact hmc))
          clear hat hbel hy n1 hmc HM
          go_wp2_with (go_at_call 18; refine HC.out.mono ?_; rintro e W1 ⟨rfl, hb1⟩)
          go_ret
          exact ⟨by rw [HF.out]; rfl, nxt HBEL.out hb1⟩
      · have hlt' : l.length ≤ k := by omega
        have HMF := HM.out
        rw [List.take_of_length_le hlt'] at HMF
        have HF := hidM (okRows_ord HWAY.out (by rw [Int.toNat_natCast]; exact HMF))
        have HO := hidM (HORD.out w0 hbel)
        have HBEL := hidM hbel
        generalize ordB l = ok at HO HF
        clear hbel HMF HM HORD
        go_wp2_with (go_at_call 19; refine HO.out.mono ?_; rintro e W1 ⟨rfl, hb1⟩)
        go_ret
        exact ⟨by rw [HF.out]; rfl, nxt HBEL.out hb1⟩
  · have hmi : (1536 : Int) < (l.length : Int) := by omega
    have HF := hidM (okRows_big (agg := agg) (bound := (bd : Int)) hm)
    clear hw
    go_enter Tryz.func6, Tryz.ntmps6
    go_wp2
    go_ret
    exact ⟨by rw [HF.out]; rfl, Below.refl _ _⟩
theorem map_take_snoc {l : List Rw} {k : Nat} {r : Rw} (h : l[k]? = some r) : (l.map (·.1)).take (k + 1) = (l.map (·.1)).take k ++ [r.1] := by
  rw [List.take_add_one, List.getElem?_map, h]
  rfl
end Go.Proofs.YtejgcflcckjlpaaGreatDoor
