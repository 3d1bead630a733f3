/- Texts laid together: WRunsEq, WRFold. -/
import Derived.Test.YtejgcflcckjlpaaDoorOC38M
import Derived.Test.YtejgcflcckjlpaaDoorOC41M
/- Runs of rows compared. -/
namespace Go.Proofs.YtejgcflcckjlpaaDoor
open Go.RowKit
set_option linter.unusedVariables false
set_option maxRecDepth 100000

set_option maxHeartbeats 1000000 in
theorem eqRuns_any (v u : Value) (L : List (List Rw)) (w : World) (h : RnS w v L) (h' : RnS w u L) (hl : L.length ≤ 100000) (hls : ∀ l ∈ L, l.length ≤ 100000 ∧ ∀ r ∈ l, r.2.2.length ≤ 100000) :
    Calls Tryd.prog 14 #[v, u] w (BoolR w true) := by
  obtain ⟨a, cap, rfl, hsh⟩ := h
  obtain ⟨a', cap', rfl, hsh'⟩ := h'
  go_enter Tryd.func14, Tryd.ntmps14
  go_wp2
  go_loopw [5] (fun i wr => ∃ k : Nat, k ≤ L.length ∧ i = .int .i64 k ∧ Below w.heap.size w wr) (fun i _ => L.length - (intOf i).toNat)
  case atStart => exact ⟨0, by omega, rfl, Below.refl _ _⟩
  case round =>
    rename World => w0
    obtain ⟨k, hk, rfl, hbel⟩ := hrel
    have hsz := hbel.size
    by_cases hlt : k < L.length
    · obtain ⟨r, hr⟩ := getSome hlt
      rcases hsh with rfl | ⟨b, off, rfl, hb, hat⟩
      · simp at hlt
      rcases hsh' with rfl | ⟨b', off', rfl, hb', hat'⟩
      · simp at hlt
      obtain ⟨x, hx0, hws, -⟩ := hat k r hr
      obtain ⟨y, hy0, hws', -⟩ := hat' k r hr
      obtain ⟨q1, q2⟩ := hls r (List.mem_of_getElem? hr)
      have hl1 : b < w0.heap.size := by omega
      have hl2 : b' < w0.heap.size := by omega
      have H := hidM (fun W (hW : Below w0.heap.size w0 W) => eqrows_any x y r W ((hws.below hbel).below hW) ((hws'.below hbel).below hW) q1 q2)
      have hx := (hbel.cell (p := ⟨b, off + k, none⟩) hb).trans hx0
      have hy := (hbel.cell (p := ⟨b', off' + k, none⟩) hb').trans hy0
      have HS := hidM (show ∀ W, Below w0.heap.size w0 W → W.cell? ⟨b, off + k, none⟩ = some x ∧ W.cell? ⟨b', off' + k, none⟩ = some y ∧ Below w0.heap.size w0 W from fun W hW =>
        ⟨(hW.cell (p := ⟨b, _, none⟩) hl1).trans hx, (hW.cell (p := ⟨b', _, none⟩) hl2).trans hy, hW⟩)
      obtain ⟨xa, xc, rfl, -⟩ := id hws
      obtain ⟨za, zc, rfl, -⟩ := id hws'
      clear hat hat' hws hws' hx0 hy0 hr hx hy
      have HBEL := hidM hbel
      go_wp2_with fail
      go_region_held3 (fun W => W.cell? ⟨b, off + k, none⟩ = some (.slice xa r.length xc) ∧ W.cell? ⟨b', off' + k, none⟩ = some (.slice za r.length zc) ∧ Below w0.heap.size w0 W)
        (first | exact HS.out _ (Below.refl _ _).drew | exact HS.out _ (nxt ((Below.refl _ _).drew) hb2))
        (first | (go_at_call 26; refine (H.out _ ((Below.refl _ _).drew)).mono ?_; rintro e W2 ⟨rfl, hb2⟩))
      go_wp2
      go_roundw
      case rel => exact ⟨k + 1, by omega, by go_num, (HBEL.out.trans ((nxt ((Below.refl w0.heap.size w0).drew) hb2).mono hsz))⟩
      case measure => simp [intOf]; omega
    · go_wp2
      go_ret
      exact ⟨rfl, hbel⟩
end Go.Proofs.YtejgcflcckjlpaaDoor
/- The page's own Fold, Recs. -/
namespace Go.Proofs.YtejgcflcckjlpaaDoor
open Go.RowKit
set_option linter.unusedVariables false
set_option maxRecDepth 100000
theorem ones_snoc (agg : Int) {l : List Rc} {k : Nat} {x : Rc} (hx : l[k]? = some x) : ones agg (l.take (k + 1)) = ones agg (l.take k) ++ [(x.1, oneC agg x.2)] := by
  rw [List.take_add_one, hx]
  unfold ones
  simp
theorem ones_len (agg : Int) (l : List Rc) : (ones agg l).length = l.length := by unfold ones; simp
end Go.Proofs.YtejgcflcckjlpaaDoor
