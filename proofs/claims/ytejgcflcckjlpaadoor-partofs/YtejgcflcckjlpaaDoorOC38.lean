/- Texts laid together: WCopy, WJoin, WEq. -/
import Derived.Test.YtejgcflcckjlpaaDoorOC32
import Derived.Deep.RegionHeld3
/- Rows copied: CopyRows. -/
namespace Go.Proofs.YtejgcflcckjlpaaDoor
open Go.RowKit
set_option linter.unusedVariables false
set_option maxRecDepth 100000

set_option maxHeartbeats 1600000 in
theorem copyRows_any (v : Value) (l : List Rw) (w : World) (h : WS w v l) (hl : l.length ≤ 100000) (hls : ∀ r ∈ l, r.2.2.length ≤ 100000) :
    Calls Tryd.prog 11 #[v] w fun e w' => (∃ v', e = .returned v' ∧ OwnW w' w.heap.size v' l) ∧ Below w.heap.size w w' := by
  obtain ⟨va, vc, rfl, hsh⟩ := h
  go_enter Tryd.func11, Tryd.ntmps11
  go_wp2
  go_loopw [3, 4] (fun vo i wr => ∃ k : Nat, k ≤ l.length ∧ i = .int .i64 k ∧ OwnW wr w.heap.size vo (l.take k) ∧ Below w.heap.size w wr) (fun _ i _ => l.length - (intOf i).toNat)
  case atStart => exact ⟨0, by omega, rfl, OwnW.nil _ _, Below.refl _ _⟩
  case round =>
    rename World => w0
    obtain ⟨k, hk, rfl, ho, hbel⟩ := hrel
    have hsz := hbel.size
    by_cases hlt : k < l.length
    · obtain ⟨⟨⟨ya, yb⟩, yn, yl⟩, hy⟩ := getSome hlt
      rcases hsh with rfl | ⟨b, off, rfl, hb, hat⟩
      · simp at hlt
      obtain ⟨c0, c1, c2, s1, p1, c3, n1⟩ := (hat.below hbel hb) k _ hy
      simp only at c0 c1 c2 c3 n1
      have HC := hidM (copyRow_any (ya, yb) yn yl s1 p1 w0 n1 (hls _ (List.mem_of_getElem? hy)))
      obtain ⟨xs, hx, ha⟩ := ho
      have hxl : xs.length = k := by rw [ha.1, List.length_take]; omega
      have hst : ∀ (W : World) (o : Obj), Below W.heap.size W (W.alloc o) := fun W o => (Below.refl _ _).alloc (Nat.le_refl _) _
      have hstep : l.take (k + 1) = l.take k ++ [((ya, yb), (yn, yl))] := by rw [List.take_add_one, hy]; rfl
      have HT := hidM (show ∀ (W2 : World) (s2 : Sl), Below w0.heap.size w0 W2 → OwnL W2 w0.heap.size (slV s2) yl → ∃ v4 W4, (Builtin.append_ #[40, 40] 40 #[u3, .slice (some ⟨W2.heap.size, 0, none⟩) 1 1]).run Tryd.prog (W2.alloc (.cells #[.int .i64 ya, .string yb, .int .i64 yn, slV s2] 57)) = .ok v4 W4 ∧ OwnW W4 w.heap.size v4 (l.take (k + 1)) ∧ Below w.heap.size w W4 from fun W2 s2 hb2 ho2 => by
        have X3 := (hx.below hb2).below (hst W2 (.cells #[.int .i64 ya, .string yb, .int .i64 yn, slV s2] 57))
        have G3 := nxt hb2 (hst W2 (.cells #[.int .i64 ya, .string yb, .int .i64 yn, slV s2] 57))
        have O3 := ho2.below (hst W2 (.cells #[.int .i64 ya, .string yb, .int .i64 yn, slV s2] 57))
        obtain ⟨v4, W4, u1, X4, u3, -⟩ := append_xs 40 X3 (XS.new W2 ((ya, yb), yn, s2)) (by simp; omega) (by have := G3.size; omega)
        have hk3 := keep_row X3 u3
        refine ⟨v4, W4, u1, ⟨_, X4, ?_⟩, (hbel.trans (G3.mono hsz)).grown u3 (by have := G3.size; omega) (own_row X3)⟩
        rw [hstep]
        exact ((ha.keep (.below G3)).keep hk3).snoc ⟨rfl, rfl, (O3.keep hk3).lower hsz⟩)
      clear hat hbel ha hx hst hstep hy n1
      go_wp2_with (first
        | (go_at_call 24; refine HC.out.mono ?_; rintro e W2 ⟨⟨⟨s2a, s2b, s2c⟩, rfl, ho2⟩, hb2⟩; obtain ⟨v4, W4, u1, hown4, hbel4⟩ := HT.out W2 (s2a, s2b, s2c) hb2 ho2; have U1 := hidM u1; clear u1)
        | (at_builtin; refine wpList_append_run _ rfl _ _ _ rfl _ _ v4 W4 rfl rfl U1.out ?_))
      go_roundw
      case rel => exact ⟨k + 1, by omega, by go_num, hown4, hbel4⟩
      case measure => simp [intOf]; omega
    · have hlt' : l.length ≤ k := by omega
      rw [List.take_of_length_le hlt'] at ho
      go_wp2
      go_ret
      exact ⟨⟨_, rfl, ho⟩, hbel⟩
end Go.Proofs.YtejgcflcckjlpaaDoor
/- row.Join of runs that may be. -/
namespace Go.Proofs.YtejgcflcckjlpaaDoor
open Go.RowKit Go.Maps
set_option linter.unusedVariables false
set_option maxRecDepth 100000

/-- Runs of rows, and none longer than it may be. -/
def RunsC (w : World) (b off : Nat) (L : List (List Rw)) : Prop := ∀ (i : Nat) (l : List Rw), L[i]? = some l → ∃ u, w.cell? ⟨b, off + i, none⟩ = some u ∧ WS w u l ∧ CapOk u
def RnS (w : World) (v : Value) (L : List (List Rw)) : Prop := ∃ a cap, v = .slice a L.length cap ∧ (L = [] ∨ ∃ b off, a = some ⟨b, off, none⟩ ∧ b < w.heap.size ∧ RunsC w b off L)
theorem RunsC.below {w w' : World} {b off B : Nat} {L : List (List Rw)} (h : RunsC w b off L) (hb : Below w.heap.size w w') (hlt : b < w.heap.size) : RunsC w' b off L := fun i l hl => by
  obtain ⟨u, h1, h2, h3⟩ := h i l hl
  exact ⟨u, (hb.cell (p := ⟨b, _, none⟩) hlt).trans h1, h2.below hb, h3⟩
/-- What each run is. -/
structure RunOk (agg bound : Int) (l : List Rw) : Prop where
  ok : okRows agg bound l = true
  cell : ∀ r ∈ l, OkC agg bound r.2
  key : ∀ r ∈ l, Good r.1
theorem flat_snoc {L : List (List Rw)} {k : Nat} {r : List Rw} (hr : L[k]? = some r) : (L.take (k + 1)).flatten = (L.take k).flatten ++ r := by
  rw [List.take_add_one, hr]
  simp
theorem len_mono (J : Cl → Cl → Cl × Int) (a b : List Rw) : (gat J a).1.length ≤ (gat J (a ++ b)).1.length := by
  induction b using snoc_ind with
  | h0 => rw [List.append_nil]; exact Nat.le_refl _
  | h1 b r ih =>
    rw [← List.append_assoc, gat_snoc]
    unfold stepG
    simp only
    rw [len_putR (rise_gat J (a ++ b))]
    split <;> omega
theorem flat_take (L : List (List Rw)) (k : Nat) : ∃ m, L.flatten = (L.take k).flatten ++ m := ⟨(L.drop k).flatten, by rw [← List.flatten_append, List.take_append_drop]⟩
theorem flat_mem {L : List (List Rw)} {k : Nat} {x : Rw} (h : x ∈ (L.take k).flatten) : ∃ l ∈ L, x ∈ l := by
  obtain ⟨l, hl, hx⟩ := List.mem_flatten.1 h
  exact ⟨l, List.mem_of_mem_take hl, hx⟩
theorem gatOk {agg bound : Int} {L : List (List Rw)} (hL : ∀ l ∈ L, RunOk agg bound l) (m : List Rw) (hm : ∀ x ∈ m, ∃ l ∈ L, x ∈ l) : (∀ x c, look (gat (joinC agg bound.toNat) m).1 x = some c → OkC agg bound c) ∧ ∀ r ∈ (gat (joinC agg bound.toNat) m).1, Good r.1 := by
  refine ⟨okC_gat m fun r hr => ?_, fun r hr => ?_⟩
  · obtain ⟨l, hl, hx⟩ := hm r hr
    exact (hL l hl).cell r hx
  · have h1 := mem_look (rise_gat _ m) hr
    obtain ⟨y, hy, e⟩ := (keys_gat (joinC agg bound.toNat) m r.1).1 (by rw [h1]; rfl)
    obtain ⟨l, hl, hx⟩ := hm y hy
    rw [← e]
    exact (hL l hl).key y hx
end Go.Proofs.YtejgcflcckjlpaaDoor
/- Rows compared. -/
namespace Go.Proofs.YtejgcflcckjlpaaDoor
open Go.RowKit
set_option linter.unusedVariables false
set_option maxRecDepth 100000

theorem eqrow_any (k : Ky) (n : Int) (l : List Int) (a a' : Option Addr) (cap cap' : Nat) (w : World) (h : NS w (.slice a l.length cap) l) (h' : NS w (.slice a' l.length cap') l) (hl : l.length ≤ 100000) :
    Calls Tryd.prog 33 #[.agg #[.int .i64 k.1, .string k.2, .int .i64 n, .slice a l.length cap], .agg #[.int .i64 k.1, .string k.2, .int .i64 n, .slice a' l.length cap']] w (BoolR w true) := by
  obtain ⟨ka, kb⟩ := k
  have hb : Below w.heap.size w ((w.alloc (.cells #[.int .i64 ka, .string kb, .int .i64 n, .slice a l.length cap] 57)).alloc (.cells #[.int .i64 ka, .string kb, .int .i64 n, .slice a' l.length cap'] 57)) := ((Below.refl _ _).alloc (Nat.le_refl _) _).alloc (by simp) _
  have H := hidM (eqcell_any _ _ (n, l) _ ⟨a, cap, rfl, h.below hb⟩ ⟨a', cap', rfl, h'.below hb⟩ hl)
  have HB := hidM hb
  have he := fun W => eqK ka ka kb kb W
  rw [eqB_self] at he
  have hg := fun op p q xs ys W => guardK op p q xs ys W
  simp only
  go_enter Tryd.func33, Tryd.ntmps33
  go_wp2_with (go_at_call 44; refine H.out.mono ?_; rintro e W2 ⟨rfl, hb2⟩)
  go_ret
  exact ⟨rfl, nxt HB.out hb2⟩
set_option maxHeartbeats 1000000 in
theorem eqrows_any (v u : Value) (l : List Rw) (w : World) (h : WS w v l) (h' : WS w u l) (hl : l.length ≤ 100000) (hls : ∀ r ∈ l, r.2.2.length ≤ 100000) :
    Calls Tryd.prog 26 #[v, u] w (BoolR w true) := by
  rcases h.shape with ⟨a, cap, rfl, rfl⟩ | ⟨b, off, cap, rfl, hb, hat⟩
  · obtain ⟨a', cap', rfl, -⟩ := h'
    go_enter Tryd.func26, Tryd.ntmps26
    go_wp2
    go_loop [5] (fun i => i = .int .i64 0) (fun _ => 0)
    case atStart => rfl
    case round =>
      subst hrel
      go_wp2
      go_ret
      exact ⟨rfl, Below.refl _ _⟩
  · obtain ⟨a', cap', rfl, hsh⟩ := h'
    go_enter Tryd.func26, Tryd.ntmps26
    go_wp2
    go_loopw [5] (fun i wr => ∃ k : Nat, k ≤ l.length ∧ i = .int .i64 k ∧ Below w.heap.size w wr) (fun i _ => l.length - (intOf i).toNat)
    case atStart => exact ⟨0, by omega, rfl, Below.refl _ _⟩
    case round =>
      rename World => w0
      obtain ⟨k, hk, rfl, hbel⟩ := hrel
      have hsz := hbel.size
      by_cases hlt : k < l.length
      · obtain ⟨⟨⟨ya, yb⟩, yn, yl⟩, hy⟩ := getSome hlt
        rcases hsh with rfl | ⟨b', off', rfl, hb', hat'⟩
        · simp at hlt
        have hyl : yl.length ≤ 100000 := hls _ (List.mem_of_getElem? hy)
        obtain ⟨c0, c1, c2, s1, p1, c3, n1⟩ := (hat.below hbel hb) k _ hy
        obtain ⟨d0, d1, d2, s2, p2, d3, n2⟩ := (hat'.below hbel hb') k _ hy
        simp only at c0 c1 c2 c3 n1 d0 d1 d2 d3 n2
        have H := hidM (fun W (hW : Below w0.heap.size w0 W) => eqrow_any (ya, yb) yn yl s1 s2 p1 p2 W (n1.below hW) (n2.below hW) hyl)
        have HS := hidM (show ∀ W, Below w0.heap.size w0 W → W.cell? ⟨b, off + k * 4, none⟩ = some (.int .i64 ya) ∧ W.cell? ⟨b, off + k * 4 + 1, none⟩ = some (.string yb) ∧ W.cell? ⟨b, off + k * 4 + 2, none⟩ = some (.int .i64 yn) ∧ W.cell? ⟨b, off + k * 4 + 3, none⟩ = some (.slice s1 yl.length p1) ∧ W.cell? ⟨b', off' + k * 4, none⟩ = some (.int .i64 ya) ∧ W.cell? ⟨b', off' + k * 4 + 1, none⟩ = some (.string yb) ∧ W.cell? ⟨b', off' + k * 4 + 2, none⟩ = some (.int .i64 yn) ∧ W.cell? ⟨b', off' + k * 4 + 3, none⟩ = some (.slice s2 yl.length p2) ∧ Below w0.heap.size w0 W from fun W hW => by
          have hl1 : b < w0.heap.size := by omega
          have hl2 : b' < w0.heap.size := by omega
          exact ⟨(hW.cell (p := ⟨b, _, none⟩) hl1).trans c0, (hW.cell (p := ⟨b, _, none⟩) hl1).trans c1, (hW.cell (p := ⟨b, _, none⟩) hl1).trans c2, (hW.cell (p := ⟨b, _, none⟩) hl1).trans c3, (hW.cell (p := ⟨b', _, none⟩) hl2).trans d0, (hW.cell (p := ⟨b', _, none⟩) hl2).trans d1, (hW.cell (p := ⟨b', _, none⟩) hl2).trans d2, (hW.cell (p := ⟨b', _, none⟩) hl2).trans d3, hW⟩)
        clear hat hat' n1 n2
        have HBEL := hidM hbel
        go_wp2_with fail
        go_region_held3 (fun W => W.cell? ⟨b, off + k * 4, none⟩ = some (.int .i64 ya) ∧ W.cell? ⟨b, off + k * 4 + 1, none⟩ = some (.string yb) ∧ W.cell? ⟨b, off + k * 4 + 2, none⟩ = some (.int .i64 yn) ∧ W.cell? ⟨b, off + k * 4 + 3, none⟩ = some (.slice s1 yl.length p1) ∧ W.cell? ⟨b', off' + k * 4, none⟩ = some (.int .i64 ya) ∧ W.cell? ⟨b', off' + k * 4 + 1, none⟩ = some (.string yb) ∧ W.cell? ⟨b', off' + k * 4 + 2, none⟩ = some (.int .i64 yn) ∧ W.cell? ⟨b', off' + k * 4 + 3, none⟩ = some (.slice s2 yl.length p2) ∧ Below w0.heap.size w0 W)
          (first | exact HS.out _ (Below.refl _ _).drew | exact HS.out _ (nxt ((Below.refl _ _).drew) hb2))
          (first | (go_at_call 33; refine (H.out _ ((Below.refl _ _).drew)).mono ?_; rintro e W2 ⟨rfl, hb2⟩))
        go_wp2
        go_roundw
        case rel => exact ⟨k + 1, by omega, by go_num, (HBEL.out.trans ((nxt ((Below.refl w0.heap.size w0).drew) hb2).mono hsz))⟩
        case measure => simp [intOf]; omega
      · go_wp2
        go_ret
        exact ⟨rfl, hbel⟩
end Go.Proofs.YtejgcflcckjlpaaDoor
