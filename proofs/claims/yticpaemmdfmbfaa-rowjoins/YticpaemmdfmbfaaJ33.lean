/- Rows compared. -/
import Derived.Test.YticpaemmdfmbfaaJ32
import Derived.Deep.RegionHeld3
namespace Go.Proofs.Yticpaemmdfmbfaa
open Go.RowKit
set_option linter.unusedVariables false
set_option maxRecDepth 100000

theorem eqrow_any (k : Ky) (n : Int) (l : List Int) (a a' : Option Addr) (cap cap' : Nat) (w : World) (h : NS w (.slice a l.length cap) l) (h' : NS w (.slice a' l.length cap') l) (hl : l.length ≤ 100000) :
    Calls Try.prog 39 #[.agg #[.int .i64 k.1, .string k.2, .int .i64 n, .slice a l.length cap], .agg #[.int .i64 k.1, .string k.2, .int .i64 n, .slice a' l.length cap']] w (BoolR w true) := by
  obtain ⟨ka, kb⟩ := k
  have hb : Below w.heap.size w ((w.alloc (.cells #[.int .i64 ka, .string kb, .int .i64 n, .slice a l.length cap] 67)).alloc (.cells #[.int .i64 ka, .string kb, .int .i64 n, .slice a' l.length cap'] 67)) := ((Below.refl _ _).alloc (Nat.le_refl _) _).alloc (by simp) _
  have H := hidM (eqcell_any _ _ (n, l) _ ⟨a, cap, rfl, h.below hb⟩ ⟨a', cap', rfl, h'.below hb⟩ hl)
  have HB := hidM hb
  have he := fun W => eqK ka ka kb kb W
  rw [eqB_self] at he
  have hg := fun op p q xs ys W => guardK op p q xs ys W
  simp only
  go_enter Try.func39, Try.ntmps39
  go_wp2_with (go_at_call 57; refine H.out.mono ?_; rintro e W2 ⟨rfl, hb2⟩)
  go_ret
  exact ⟨rfl, nxt HB.out hb2⟩
set_option maxHeartbeats 1000000 in
theorem eqrows_any (v u : Value) (l : List Rw) (w : World) (h : WS w v l) (h' : WS w u l) (hl : l.length ≤ 100000) (hls : ∀ r ∈ l, r.2.2.length ≤ 100000) :
    Calls Try.prog 15 #[v, u] w (BoolR w true) := by
  rcases h.shape with ⟨a, cap, rfl, rfl⟩ | ⟨b, off, cap, rfl, hb, hat⟩
  · obtain ⟨a', cap', rfl, -⟩ := h'
    go_enter Try.func15, Try.ntmps15
    go_wp2
    go_loop [5] (fun i => i = .int .i64 0) (fun _ => 0)
    case atStart => rfl
    case round =>
      subst hrel
      go_wp2
      go_ret
      exact ⟨rfl, Below.refl _ _⟩
  · obtain ⟨a', cap', rfl, hsh⟩ := h'
    go_enter Try.func15, Try.ntmps15
    go_wp2
    go_loopw [5] (fun i wr => ∃ k : Nat, k ≤ l.length ∧ i = .int .i64 k ∧ Below w.heap.size w wr) (fun i _ => l.length - (intOf i).toNat)
    case atStart => exact ⟨0, by omega, rfl, Below.refl _ _⟩
    case round =>
      rename World => w0
      obtain ⟨k, hk, rfl, hbel⟩ := hrel
      have hsz := hbel.size
      by_cases hlt : k < l.length
      · obtain ⟨⟨⟨ya, yb⟩, yn, yl⟩, hy⟩ := getSome hlt
        rcases hsh with rfl | ⟨b', off', rfl, hb', hat'⟩
        · simp at hlt
        have hyl : yl.length ≤ 100000 := hls _ (List.mem_of_getElem? hy)
        obtain ⟨c0, c1, c2, s1, p1, c3, n1⟩ := (hat.below hbel hb) k _ hy
        obtain ⟨d0, d1, d2, s2, p2, d3, n2⟩ := (hat'.below hbel hb') k _ hy
        simp only at c0 c1 c2 c3 n1 d0 d1 d2 d3 n2
        have H := hidM (fun W (hW : Below w0.heap.size w0 W) => eqrow_any (ya, yb) yn yl s1 s2 p1 p2 W (n1.below hW) (n2.below hW) hyl)
        have HS := hidM (show ∀ W, Below w0.heap.size w0 W → W.cell? ⟨b, off + k * 4, none⟩ = some (.int .i64 ya) ∧ W.cell? ⟨b, off + k * 4 + 1, none⟩ = some (.string yb) ∧ W.cell? ⟨b, off + k * 4 + 2, none⟩ = some (.int .i64 yn) ∧ W.cell? ⟨b, off + k * 4 + 3, none⟩ = some (.slice s1 yl.length p1) ∧ W.cell? ⟨b', off' + k * 4, none⟩ = some (.int .i64 ya) ∧ W.cell? ⟨b', off' + k * 4 + 1, none⟩ = some (.string yb) ∧ W.cell? ⟨b', off' + k * 4 + 2, none⟩ = some (.int .i64 yn) ∧ W.cell? ⟨b', off' + k * 4 + 3, none⟩ = some (.slice s2 yl.length p2) ∧ Below w0.heap.size w0 W from fun W hW => by
          have hl1 : b < w0.heap.size := by omega
          have hl2 : b' < w0.heap.size := by omega
          exact ⟨(hW.cell (p := ⟨b, _, none⟩) hl1).trans c0, (hW.cell (p := ⟨b, _, none⟩) hl1).trans c1, (hW.cell (p := ⟨b, _, none⟩) hl1).trans c2, (hW.cell (p := ⟨b, _, none⟩) hl1).trans c3, (hW.cell (p := ⟨b', _, none⟩) hl2).trans d0, (hW.cell (p := ⟨b', _, none⟩) hl2).trans d1, (hW.cell (p := ⟨b', _, none⟩) hl2).trans d2, (hW.cell (p := ⟨b', _, none⟩) hl2).trans d3, hW⟩)
        clear hat hat' n1 n2
        have HBEL := hidM hbel
        go_wp2_with fail
        go_region_held3 (fun W => W.cell? ⟨b, off + k * 4, none⟩ = some (.int .i64 ya) ∧ W.cell? ⟨b, off + k * 4 + 1, none⟩ = some (.string yb) ∧ W.cell? ⟨b, off + k * 4 + 2, none⟩ = some (.int .i64 yn) ∧ W.cell? ⟨b, off + k * 4 + 3, none⟩ = some (.slice s1 yl.length p1) ∧ W.cell? ⟨b', off' + k * 4, none⟩ = some (.int .i64 ya) ∧ W.cell? ⟨b', off' + k * 4 + 1, none⟩ = some (.string yb) ∧ W.cell? ⟨b', off' + k * 4 + 2, none⟩ = some (.int .i64 yn) ∧ W.cell? ⟨b', off' + k * 4 + 3, none⟩ = some (.slice s2 yl.length p2) ∧ Below w0.heap.size w0 W)
          (first | exact HS.out _ (Below.refl _ _).drew | exact HS.out _ (nxt ((Below.refl _ _).drew) hb2))
          (first | (go_at_call 39; refine (H.out _ ((Below.refl _ _).drew)).mono ?_; rintro e W2 ⟨rfl, hb2⟩))
        go_wp2
        go_roundw
        case rel => exact ⟨k + 1, by omega, by go_num, (HBEL.out.trans ((nxt ((Below.refl w0.heap.size w0).drew) hb2).mono hsz))⟩
        case measure => simp [intOf]; omega
      · go_wp2
        go_ret
        exact ⟨rfl, hbel⟩
end Go.Proofs.Yticpaemmdfmbfaa
