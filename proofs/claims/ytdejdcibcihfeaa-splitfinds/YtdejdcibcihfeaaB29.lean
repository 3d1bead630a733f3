/- The law's small helpers (stage 12): what an ask weighs, numbers written over, num. -/
import Derived.Test.YtdejdcibcihfeaaB27
import Derived.Test.YtdejdcibcihfeaaB28
namespace Go.Proofs.Ytdejdcibcihfeaa
open Go.RowKit
set_option linter.unusedVariables false
set_option maxRecDepth 100000

theorem num12_any (e : Int) (w : World) : Calls Try.prog 7 #[.int .i64 e] w fun r w' => r = .returned (.int .i64 e) ∧ w' = w := by
  go_enter Try.func7, Try.ntmps7
  go_wp2
  go_ret
  exact ⟨rfl, rfl⟩
set_option maxHeartbeats 800000 in
theorem cweight_any (c : Cfg) (v : Value) (w : World) (h : InC w c v) :
    Calls Try.prog 20 #[cfgV c v] w fun e w' => (∃ n : Int, e = .returned (.int .i64 n)) ∧ Below w.heap.size w w' := by
  have hlen := h.len
  have hwf := h.wf
  obtain ⟨va, vc, rfl, hsh⟩ := h.ps
  clear h
  obtain ⟨W0, hW0⟩ : ∃ W0 : World, W0 = w.alloc (.cells #[.int .i64 c.sites, .slice va c.splits.length vc, .int .i64 c.again, .int .i64 c.over] 24) := ⟨_, rfl⟩
  have hb0 : Below w.heap.size w W0 := by rw [hW0]; exact (Below.refl _ _).alloc (Nat.le_refl _) _
  have B0 : BlkF W0 w.heap.size (.int .i64 c.sites) (.slice va c.splits.length vc) (.int .i64 c.again) (.int .i64 c.over) := by rw [hW0]; exact BlkF.new w _ _ _ _
  obtain ⟨r0, r1, r2, r3⟩ := B0.cells
  have HW := hidM hW0.symm
  have HB0 := hidM hb0
  have HF0 := hidM B0
  clear hW0 hb0 B0
  go_enter Try.func20, Try.ntmps20
  go_wp2
  rw [HW.out]
  clear r0 r1 r2 r3
  go_loopw [3, 4] (fun nv i wr => ∃ (k : Nat) (n : Int), k ≤ c.splits.length ∧ i = .int .i64 k ∧ nv = .int .i64 n ∧ 1 ≤ n ∧ n ≤ 200000000000000 ∧ Drawn W0 wr) (fun _ i _ => c.splits.length - (intOf i).toNat)
  case atStart => exact ⟨0, _, by omega, rfl, rfl, by omega, by omega, Drawn.refl _⟩
  case round =>
    obtain ⟨k, n, hk, rfl, rfl, hn1, hn2, hD⟩ := hrel
    obtain ⟨r0, r1, r2, r3⟩ := (HF0.out.below (hD.below _)).cells
    by_cases hlt : k < c.splits.length
    · obtain ⟨⟨si, st, sl⟩, hy⟩ := getSome hlt
      have hw1 := hwf _ (List.mem_of_getElem? hy)
      have htx : st.size ≤ 140737488351232 := hw1.txt
      have hsl : sl.length ≤ 17592186043904 := hw1.len
      rcases hsh with hnil | ⟨b, off, rfl, hb, hat⟩
      · rw [hnil] at hlt; simp at hlt
      obtain ⟨c0, c1, sa, sc, c2, -⟩ := ((hat.below HB0.out hb).below (hD.below _) (Nat.lt_of_lt_of_le hb HB0.out.size)) k _ hy
      simp only at c0 c1 c2
      have hki0 : (0 : Int) ≤ (k : Int) := by omega
      have hki : (k : Int) < (c.splits.length : Int) := by omega
      clear hat hy hw1
      by_cases hn : n < 1048576
      · go_wp2
        go_quiet (fail)
        go_wp2
        go_roundw
        case rel => exact ⟨k + 1, n + st.size + sl.length, by omega, by go_num, by go_num, by omega, by omega, hD.step _⟩
        case measure => simp [intOf]; omega
      · go_wp2
        go_ret
        exact ⟨⟨_, rfl⟩, nxt HB0.out (hD.below _)⟩
    · have hlt' : ¬ (k : Int) < (c.splits.length : Int) := by omega
      go_wp2
      go_ret
      exact ⟨⟨_, rfl⟩, nxt HB0.out (hD.below _)⟩
abbrev askO12 (c : Cfg) (vp vl : Value) : Obj := .cells #[.int .i64 c.sites, vp, .int .i64 c.again, .int .i64 c.over, vl] 27
def BlkK (W : World) (b : Nat) (c : Cfg) (vp vl : Value) : Prop := W.heap[b]? = some (.cells #[.int .i64 c.sites, vp, .int .i64 c.again, .int .i64 c.over, vl] 27 (0, 0))
theorem BlkK.new (W : World) (c : Cfg) (vp vl : Value) : BlkK (W.alloc (askO12 c vp vl)) W.heap.size c vp vl := heap_alloc_new W _
theorem BlkK.lt {W : World} {b : Nat} {c : Cfg} {vp vl : Value} (h : BlkK W b c vp vl) : b < W.heap.size := (Array.getElem?_eq_some_iff.1 h).1
theorem BlkK.below {W W' : World} {b : Nat} {c : Cfg} {vp vl : Value} (h : BlkK W b c vp vl) (hb : Below W.heap.size W W') : BlkK W' b c vp vl := by unfold BlkK; rw [hb.block b h.lt]; exact h
theorem BlkK.cells {W : World} {b : Nat} {c : Cfg} {vp vl : Value} (h : BlkK W b c vp vl) : W.cell? ⟨b, 0, none⟩ = some (.int .i64 c.sites) ∧ W.cell? ⟨b, 1, none⟩ = some vp ∧ W.cell? ⟨b, 2, none⟩ = some (.int .i64 c.again) ∧ W.cell? ⟨b, 3, none⟩ = some (.int .i64 c.over) ∧ W.cell? ⟨b, 4, none⟩ = some vl := by
  unfold BlkK at h
  refine ⟨?_, ?_, ?_, ?_, ?_⟩ <;> simp [World.cell?, h]
theorem heavy12_any (c : Cfg) (vp vl : Value) (l : List Int) (w : World) (h : In12 w c vp vl l) :
    Calls Try.prog 5 #[askV12 c vp vl] w fun e w' => (∃ r : Bool, e = .returned (.bool r)) ∧ Below w.heap.size w w' := by
  obtain ⟨W0, hW0⟩ : ∃ W0 : World, W0 = w.alloc (askO12 c vp vl) := ⟨_, rfl⟩
  have hb0 : Below w.heap.size w W0 := by rw [hW0]; exact (Below.refl _ _).alloc (Nat.le_refl _) _
  have B0 : BlkK W0 w.heap.size c vp vl := by rw [hW0]; exact BlkK.new w _ _ _
  have HC := hidM (cweight_any c vp W0 (h.cfg.below hb0))
  obtain ⟨a, k, rfl, -⟩ := h.lcap
  have HW := hidM hW0.symm
  have HB0 := hidM hb0
  have HF := hidM B0
  clear hW0 hb0 B0 h
  go_enter Try.func5, Try.ntmps5
  go_wp2_with fail
  rw [HW.out]
  refine HC.out.mono ?_
  rintro e W1 ⟨⟨n, rfl⟩, hb1⟩
  obtain ⟨r0, r1, r2, r3, r4⟩ := (HF.out.below hb1).cells
  by_cases hn : 20000 < n
  · go_wp2
    go_ret
    exact ⟨⟨_, rfl⟩, nxt HB0.out hb1⟩
  · go_wp2
    go_ret
    exact ⟨⟨_, rfl⟩, nxt HB0.out hb1⟩
/-- Numbers, appended onto a row of the call's own. -/
theorem append_is {W : World} {base : Nat} {v u : Value} {l m : List Int} (ty : TypeId) (hown : OwnN W base v l) (hns : NS W u m) (hl : l.length + m.length ≤ 17592186044000) (hb : base ≤ W.heap.size) :
    ∃ v' W', (Builtin.append_ #[25, 25] ty #[v, u]).run Try.prog W = .ok v' W' ∧ OwnN W' base v' (l ++ m) ∧ W.grownBy W' v.ownBlock ∧ (v'.ownBlock = v.ownBlock ∨ v'.ownBlock = some W.heap.size) := by
  obtain ⟨i0, hi, hz0, hz1, hz2⟩ := info_parts Try.info3
  obtain ⟨a, cap, rfl, h⟩ := hns
  have go : ∀ (ad : Addr) (news : List Value), news = m.map (Value.int .i64) → (∀ j u, news[j]? = some u → W.cell? (ad.add j) = some u) → ∃ v' W', (Builtin.append_ #[25, 25] ty #[v, .slice (some ad) m.length cap]).run Try.prog W = .ok v' W' ∧ OwnN W' base v' (l ++ m) ∧ W.grownBy W' v.ownBlock ∧ (v'.ownBlock = v.ownBlock ∨ v'.ownBlock = some W.heap.size) := by
    intro ad news hn hc
    obtain ⟨v', w', hr, h2, h3, _, h5⟩ := run_append_own_at (P := Try.prog) W base 25 ty 3 i0 _ 1 8 Try.underlying25 hi hz0 hz1 hz2 rfl (by decide) v l.length (l.map (Value.int .i64)) hown ad m.length cap news (by subst hn; simp) hc (by subst hn; intro u hu; obtain ⟨x, _, rfl⟩ := List.mem_map.1 hu; rfl) (by unfold maxLen; omega) (by omega) hb
    refine ⟨v', w', hr, ?_, h3, h5⟩
    subst hn
    unfold OwnN
    rw [List.map_append, List.length_append]
    exact h2
  rcases h with rfl | ⟨b, off, rfl, hb, hat⟩
  · cases a with
    | none =>
      refine ⟨v, W, ?_, by rw [List.append_nil]; exact hown, World.grownBy.refl _ _, .inl rfl⟩
      rcases hown.2 with ⟨rfl, h0⟩ | ⟨g, cap', cur, rfl, _, _, hnc, _⟩
      · simp [Builtin.append_, run_underlying Try.underlying25, sizeOf, typeInfo, hi, Builtin.lenOf, Builtin.firstCells]
      · simp [Builtin.append_, run_underlying Try.underlying25, sizeOf, typeInfo, hi, Builtin.lenOf, Builtin.firstCells, hnc, storeCells]
    | some ad => exact go ad [] rfl (fun j u hj => by simp at hj)
  · refine go ⟨b, off, none⟩ _ rfl fun j u hj => ?_
    rw [Addr.add_lit]
    rw [List.getElem?_map] at hj
    cases hm : m[j]? with
    | none => rw [hm] at hj; simp at hj
    | some x => rw [hm] at hj; simp at hj; subst hj; exact hat j x hm
end Go.Proofs.Ytdejdcibcihfeaa
