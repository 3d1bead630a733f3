/- Texts laid together: PTMay, PTMayF. -/
import Derived.Test.YtejgcflcckjlpaaGreatDoorBC34
import Derived.Test.YtejgcflcckjlpaaGreatDoorBC36
/- part.mayStand: may rows be, as key and order go. -/
namespace Go.Proofs.YtejgcflcckjlpaaGreatDoor
open Go.RowKit
set_option linter.unusedVariables false
set_option maxRecDepth 100000

theorem Tryz.infoRow4 : (Tryz.prog.info? 47).map (fun i => (i.zero, i.size, i.bytes)) = some (some (.agg #[.int .i64 0, .string ⟨#[]⟩, .int .i64 0, .slice none 0 0]), 4, 56) := by kernel_rfl
/-- Rows without their cells. -/
def bareR (l : List Rw) : List Rw := l.map fun r => (r.1, (0, []))
theorem bare_rise (l : List Rw) : RiseK (bareR l) ↔ RiseK l := by unfold bareR RiseK; rw [List.pairwise_map]
theorem ord_bare (l : List Rw) : ordB (bareR l) = ordB l := by
  unfold ordB
  rw [show decide (RiseK (bareR l)) = decide (RiseK l) from decide_eq_decide.2 (bare_rise l)]
  unfold bareR
  rw [List.all_map, List.length_map]
  rfl
theorem okRows_bare (l : List Rw) : okRows 1 0 (bareR l) = ordB l := by
  rw [okRows_ord (agg := 1) (bound := 0) (by decide) (fun r hr => by
    unfold bareR at hr
    obtain ⟨x, _, rfl⟩ := List.mem_map.1 hr
    rw [mayN (by decide) (by decide)]
    rfl), ord_bare]
def bareRaw (l : List Rw) : List Raw := l.map fun r => (r.1, 0, (none, 0, 0))
/-- As they lie when k are done. -/
def bareX (l : List Rw) (k : Nat) : List Raw := bareRaw (l.take k) ++ List.replicate (l.length - k) noRaw
theorem bareX_len (l : List Rw) {k : Nat} (h : k ≤ l.length) : (bareX l k).length = l.length := by unfold bareX bareRaw; simp; omega
theorem bareX_get (l : List Rw) {k : Nat} (h : k < l.length) : (bareX l k)[k]? = some noRaw := by
  unfold bareX bareRaw
  rw [List.getElem?_append_right (by simp; omega), List.length_map, List.length_take, Nat.min_eq_left (by omega), Nat.sub_self, List.getElem?_replicate, if_pos (by omega)]
theorem bareX_set (l : List Rw) {k : Nat} {r : Rw} (h : l[k]? = some r) : (bareX l k).set k (r.1, 0, (none, 0, 0)) = bareX l (k + 1) := by
  have hk : k < l.length := (List.getElem?_eq_some_iff.1 h).1
  unfold bareX bareRaw
  rw [List.set_append_right _ _ (by simp; omega), List.length_map, List.length_take, Nat.min_eq_left (by omega), Nat.sub_self, List.take_add_one, h, show l.length - k = (l.length - (k + 1)) + 1 by omega, List.replicate_succ]
  simp
theorem flatW_key (xs : List Raw) (p : Nat) (x : Raw) (k : Ky) (hx : xs[p]? = some x) : flatW (xs.set p (k, x.2)) = ((flatW xs).set (p * 4) (.int .i64 k.1)).set (p * 4 + 1) (.string k.2) := by
  induction xs generalizing p with
  | nil => simp at hx
  | cons a l ih =>
    cases p with
    | zero => simp at hx; subst hx; rfl
    | succ p =>
      have hx' : l[p]? = some x := by simpa using hx
      rw [List.set_cons_succ]
      show encW a ++ flatW (l.set p (k, x.2)) = (((encW a ++ flatW l).set ((p + 1) * 4) (.int .i64 k.1)).set ((p + 1) * 4 + 1) (.string k.2))
      rw [ih p hx']
      have e0 : (p + 1) * 4 = (encW a).length + (p * 4) := by simp [encW]; omega
      have e1 : (p + 1) * 4 + 1 = (encW a).length + (p * 4 + 1) := by simp [encW]; omega
      rw [e1, e0, List.set_append_right _ _ (by omega), List.set_append_right _ _ (by omega)]
      simp
theorem made_flat (n : Nat) : (madeCells #[Value.int .i64 0, .string ⟨#[]⟩, .int .i64 0, .slice none 0 0] (n * 4)).toList = flatW (List.replicate n noRaw) := by
  induction n with
  | zero => simp [madeCells, flatW]
  | succ n ih =>
    have e : flatW (List.replicate (n + 1) noRaw) = flatW (List.replicate n noRaw) ++ [.int .i64 0, .string ⟨#[]⟩, .int .i64 0, .slice none 0 0] := by
      rw [List.replicate_succ', flatW_app]; rfl
    rw [e, ← ih]
    apply List.ext_getElem?
    intro j
    have hlen : (madeCells #[Value.int .i64 0, .string ⟨#[]⟩, .int .i64 0, .slice none 0 0] (n * 4)).toList.length = n * 4 := by simp [madeCells]
    by_cases hj : j < n * 4
    · rw [List.getElem?_append_left (by omega)]
      simp [madeCells, hj, show j < (n + 1) * 4 by omega]
    · rw [List.getElem?_append_right (by omega), hlen]
      by_cases h4 : j < n * 4 + 4
      · obtain ⟨d, hd, rfl⟩ : ∃ d, d < 4 ∧ j = n * 4 + d := ⟨j - n * 4, by omega, by omega⟩
        have hm : (n * 4 + d) % 4 = d := by omega
        rw [show n * 4 + d - n * 4 = d by omega]
        simp only [madeCells, Array.toList_map, List.getElem?_map, Array.toList_range]
        rw [List.getElem?_range (by omega)]
        simp only [Option.map_some, show (#[Value.int .i64 0, .string ⟨#[]⟩, .int .i64 0, .slice none 0 0] : Array Value).size = 4 from rfl, hm]
        match d, hd with
        | 0, _ => rfl
        | 1, _ => rfl
        | 2, _ => rfl
        | 3, _ => rfl
      · rw [List.getElem?_eq_none (by simp [madeCells]; omega), List.getElem?_eq_none (by simp; omega)]
theorem bare_start (W : World) (base : Nat) (l : List Rw) (hb : base ≤ W.heap.size) (hl : l.length ≤ 100000) :
    ∃ W1, (Instr.makeSlice 29 (.int .i64 (l.length : Int)) (.int .i64 (l.length : Int))).run Tryz.prog W = .ok (runsV W.heap.size l.length) W1 ∧ OwnX W1 base (runsV W.heap.size l.length) (bareX l 0) ∧ Below W.heap.size W W1 ∧ W.heap.size < W1.heap.size := by
  obtain ⟨i0, hi, hz0, hz1, hz2⟩ := info_parts Tryz.infoRow4
  obtain ⟨W1, h1, h2, h3⟩ := run_make_full (P := Tryz.prog) W base 29 47 i0 _ 4 Tryz.underlying29 hi hz0 hz1 .i64 .i64 l.length (by rw [hz2]; omega) (by unfold maxLen; omega) hb
  have e : bareX l 0 = List.replicate l.length noRaw := by unfold bareX bareRaw; simp
  refine ⟨W1, h1, ?_, (Below.refl _ _).grown h3 (Nat.le_refl _) (fun k hk => by cases hk), (h2.lt W.heap.size rfl).2⟩
  unfold OwnX
  rw [e, List.length_replicate, ← made_flat]
  exact h2
theorem bare_step {W : World} {base g k : Nat} {l : List Rw} {r : Rw} (h : OwnX W base (runsV g l.length) (bareX l k)) (hr : l[k]? = some r) :
    OwnX ((W.setCell ⟨g, k * 4, none⟩ (.int .i64 r.1.1)).setCell ⟨g, k * 4 + 1, none⟩ (.string r.1.2)) base (runsV g l.length) (bareX l (k + 1)) := by
  have hk : k < l.length := (List.getElem?_eq_some_iff.1 hr).1
  have h0 : W.ownsRow base 47 4 (runsV g l.length) l.length (flatW (bareX l k)) := by
    have h' := h
    unfold OwnX at h'
    rwa [bareX_len l (by omega)] at h'
  have h1 := (h0.stored (k * 4) (.int .i64 r.1.1)).1
  have h2 := (h1.stored (k * 4 + 1) (.string r.1.2)).1
  rw [← flatW_key (bareX l k) k noRaw r.1 (bareX_get l hk)] at h2
  rw [show ((r.1, noRaw.2) : Raw) = (r.1, 0, (none, 0, 0)) from rfl, bareX_set l hr] at h2
  unfold OwnX
  rw [bareX_len l (by omega)]
  exact h2
theorem bare_own {W : World} {base g : Nat} {l : List Rw} (h : OwnX W base (runsV g l.length) (bareX l l.length)) : OwnW W base (runsV g l.length) (bareR l) := by
  refine ⟨_, h, ?_, fun i x r hx hr => ?_⟩
  · rw [bareX_len l (Nat.le_refl _)]; unfold bareR; simp
  · have e : bareX l l.length = bareRaw l := by unfold bareX; simp
    rw [e] at hx
    unfold bareRaw at hx
    unfold bareR at hr
    rw [List.getElem?_map] at hx hr
    cases hl : l[i]? with
    | none => rw [hl] at hx; simp at hx
    | some y =>
      rw [hl] at hx hr
      simp at hx hr
      subst hx hr
      exact ⟨rfl, rfl, World.ownsRow_nil _ _ _ _⟩
theorem bare_lt {W : World} {base g n : Nat} {xs : List Raw} (h : OwnX W base (runsV g n) xs) : base ≤ g ∧ g < W.heap.size ∧ ∀ j, W.frozen? ⟨g, j, none⟩ = false := by
  rcases h.2 with ⟨e, _⟩ | ⟨g', cap, cur, e, hb, hg, _⟩
  · cases e
  · injection e with e1 e2 e3
    injection e1 with e1
    injection e1 with e1
    subst e1
    exact ⟨hb, (Array.getElem?_eq_some_iff.1 hg).1, fun j => by simp [World.frozen?, hg]⟩
theorem bare_cell {W : World} {base g k : Nat} {l : List Rw} (h : OwnX W base (runsV g l.length) (bareX l k)) (hk : k < l.length) : (∃ u, W.cell? ⟨g, k * 4, none⟩ = some u) ∧ ∃ u, W.cell? ⟨g, k * 4 + 1, none⟩ = some u := by
  have h0 : W.ownsRow base 47 4 (runsV g l.length) l.length (flatW (bareX l k)) := by
    have h' := h
    unfold OwnX at h'
    rwa [bareX_len l (by omega)] at h'
  obtain ⟨q0, q1, -, -⟩ := flatW_get _ _ _ (bareX_get l hk)
  exact ⟨⟨_, by rw [h0.cellAt _ (by omega)]; exact q0⟩, ⟨_, by rw [h0.cellAt _ (by omega)]; exact q1⟩⟩
end Go.Proofs.YtejgcflcckjlpaaGreatDoor
/- part.mayStand: the walk. -/
namespace Go.Proofs.YtejgcflcckjlpaaGreatDoor
open Go.RowKit
set_option linter.unusedVariables false
set_option maxRecDepth 100000

set_option maxHeartbeats 1600000 in
theorem mayStand_any (v : Value) (l : List Rw) (w : World) (h : WS w v l) (hl : l.length ≤ 100000) :
    Calls Tryz.prog 29 #[v] w (BoolR w (ordB l)) := by
  obtain ⟨va, vc, rfl, hsh⟩ := h
  obtain ⟨W1, hmk, hX0, hb1, hlt1⟩ := bare_start w w.heap.size l (Nat.le_refl _) hl
  obtain ⟨g, hg⟩ : ∃ g, g = w.heap.size := ⟨_, rfl⟩
  have HC := hidM (fun W (hX : OwnX W w.heap.size (runsV g l.length) (bareX l l.length)) => rcheck_any 1 0 (runsV g l.length) (bareR l) W (bare_own hX).ws (by unfold bareR; simp; exact hl) (fun r hr => by unfold bareR at hr; obtain ⟨y, _, rfl⟩ := List.mem_map.1 hr; simp) (bare_own hX).cap)
  rw [okRows_bare] at HC
  have HMK := hidM hmk
  clear hmk
  go_enter Tryz.func29, Tryz.ntmps29
  have hmk := HMK.out
  go_wp2
  have hX0 : OwnX W1 w.heap.size (runsV g l.length) (bareX l 0) := by rw [hg]; exact hX0
  rw [← hg]
  have HG := hidM hg
  clear hmk hg HMK
  go_loopw [11] (fun i wr => ∃ k : Nat, k ≤ l.length ∧ i = .int .i64 k ∧ OwnX wr w.heap.size (runsV g l.length) (bareX l k) ∧ Below w.heap.size w wr) (fun i _ => l.length - (intOf i).toNat)
  case atStart => exact ⟨0, by omega, rfl, hX0, hb1⟩
  case round =>
    clear hX0 hb1 hlt1
    rename World => w0
    obtain ⟨k, hk, rfl, hX, hbel⟩ := hrel
    have hsz := hbel.size
    by_cases hlt : k < l.length
    · obtain ⟨⟨⟨ya, yb⟩, yn, yl⟩, hy⟩ := getSome hlt
      rcases hsh with rfl | ⟨b, off, rfl, hb, hat⟩
      · simp at hlt
      obtain ⟨c0, c1, c2, s1, p1, c3, n1⟩ := (hat.below hbel hb) k _ hy
      simp only at c0 c1 c2 c3 n1
      have hst : ∀ (W : World) (o : Obj), Below W.heap.size W (W.alloc o) := fun W o => (Below.refl _ _).alloc (Nat.le_refl _) _
      obtain ⟨Wa, hWa⟩ : ∃ Wa : World, Wa = w0.alloc (.cells #[.int .i64 ya, .string yb, .int .i64 yn, .slice s1 yl.length p1] 47) := ⟨_, rfl⟩
      have hba : Below w0.heap.size w0 Wa := by rw [hWa]; exact hst _ _
      have B4 : Blk4 Wa w0.heap.size (.int .i64 ya) (.string yb) (.int .i64 yn) (.slice s1 yl.length p1) := by rw [hWa]; exact Blk4.new w0 _ _ _ _
      obtain ⟨a0, a1, a2, a3, -⟩ := B4.cells
      have hXa := hX.below hba
      obtain ⟨hg1, hg2, hfz⟩ := bare_lt hXa
      obtain ⟨⟨u0, hu0⟩, ⟨u1, hu1⟩⟩ := bare_cell hXa hlt
      have f0 := hfz (k * 4)
      have f1 := hfz (k * 4 + 1)
      rw [hWa] at hu0 hu1 f0 f1
      have hXs := bare_step hXa hy
      simp only at hXs
      rw [hWa] at hXs hba
      have HX := hidM hXs
      have HB := hidM (((hbel.trans (hba.mono hsz)).setCell (p := ⟨g, k * 4, none⟩) hg1 (.int .i64 ya)).setCell (p := ⟨g, k * 4 + 1, none⟩) hg1 (.string yb))
      clear hWa hbel hat n1 hba B4 hy hX hXa hXs hst hfz a0 a1 a2 a3
      go_wp2_with (first | fail)
      go_roundw
      case rel => exact ⟨k + 1, by omega, by go_num, HX.out, HB.out⟩
      case measure => simp [intOf]; omega
    · obtain rfl : k = l.length := by omega
      have HX := hidM (HC.out w0 hX)
      have HB := hidM hbel
      cases ho : ordB l with
      | true =>
        rw [ho] at HX
        go_wp2_with (go_at_call 20; refine HX.out.mono ?_; rintro e W2 ⟨rfl, hb2⟩)
        go_ret
        exact ⟨by rw [ho]; rfl, nxt HB.out hb2⟩
      | false =>
        rw [ho] at HX
        go_wp2_with (go_at_call 20; refine HX.out.mono ?_; rintro e W2 ⟨rfl, hb2⟩)
        go_ret
        exact ⟨by rw [ho]; rfl, nxt HB.out hb2⟩
end Go.Proofs.YtejgcflcckjlpaaGreatDoor
