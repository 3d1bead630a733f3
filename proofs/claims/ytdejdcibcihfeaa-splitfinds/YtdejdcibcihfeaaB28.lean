/- The law's argument, opened: a configuration, numbers (stage 12). -/
import Derived.Test.YtdejdcibcihfeaaB13
import Derived.ChangeArms
namespace Go.Proofs.Ytdejdcibcihfeaa
open Go.ChangeShapes Go.WideShapes Go.ChangeAt Go.RowKit Go.Deep
open Go.ChangeMaps (open_string shut_string)
set_option linter.unusedVariables false
set_option maxRecDepth 100000

theorem Try.cells3 : Try.prog.cellsOf 3 = 1 := by kernel_rfl
theorem Try.bytes3 : Try.prog.bytesOf 3 = 8 := by kernel_rfl
theorem Try.cellsInts : Try.prog.cellsOf 25 = 1 := by kernel_rfl
theorem Try.cellsSplit : Try.prog.cellsOf 35 = 3 := by kernel_rfl
theorem Try.bytesSplit : Try.prog.bytesOf 35 = 48 := by kernel_rfl
theorem Try.cellsSplits : Try.prog.cellsOf 22 = 1 := by kernel_rfl
theorem Try.cellsCfg : Try.prog.cellsOf 24 = 4 := by kernel_rfl
theorem Try.cellsAsk12 : Try.prog.cellsOf 27 = 5 := by kernel_rfl
/-- A slice of numbers that came in. -/
theorem open_ints {H : Type} {enc : TypeId × Value → H} {W : World} {fuel : Nat} {v : Value} {d : DataW H × List MemPlace} (hf : DataW.trod enc Try.prog W 0 (fun _ => true) true fuel 25 [v] = some d) (hlg : Light Try.prog 25 d.1) :
    ∃ (l : List Int) (a : Option Addr) (cap : Nat), v = .slice a l.length cap ∧ (l.length ≤ cap ∧ cap ≤ 9223372036854775807) ∧ l.length ≤ 17592186043904 ∧ (∀ x ∈ l, -9223372036854775808 ≤ x ∧ x ≤ 9223372036854775807) ∧ NS W (.slice a l.length cap) l := by
  rcases open_slice Try.underlying25 hf with ⟨hcs, _⟩ | ⟨x, len, c, m, n, D, Pl, hcs, _, hl, hm, hmm, hx, hel⟩
  · simp at hcs
    subst hcs
    exact ⟨[], none, 0, rfl, by simp, Nat.zero_le _, fun x hx => by simp at hx, none, 0, rfl, .inl rfl⟩
  · simp at hcs
    subst hcs
    simp at hmm
    subst hmm
    subst hx
    obtain ⟨hlg1, hlg2⟩ := light_slice Try.underlying25 hlg
    rw [Try.bytes3] at hlg1
    simp only [List.length_map, List.length_range] at hlg1
    unfold reachBytes at hlg1
    by_cases h0 : len = 0
    · subst h0
      exact ⟨[], _, _, rfl, ⟨Nat.zero_le _, by unfold maxLen at hm; omega⟩, Nat.zero_le _, fun x hx => by simp at hx, _, _, rfl, .inl rfl⟩
    obtain ⟨b, off, spot⟩ := x
    rw [Try.cells3] at hel
    have first := hel 0 (by omega)
    obtain ⟨cs, hc, _⟩ := first
    obtain ⟨_, hcl, hcell⟩ := World.cells?_some hc
    have hspot : spot = none := by
      have e := hcell 0 (by omega)
      match cs, hcl with
      | [v0], _ => simpa [Addr.add] using World.cell?_spot e
    subst hspot
    have hb : b < W.heap.size := by simpa [add_plain] using World.cells?_block hc (by decide)
    have hall : ∀ i, i < len → ∃ y : Int, (-9223372036854775808 ≤ y ∧ y ≤ 9223372036854775807) ∧ W.cell? ⟨b, off + i, none⟩ = some (.int .i64 y) := by
      intro i hi
      obtain ⟨cs, hc, ht⟩ := hel i (by omega)
      obtain ⟨_, hcl, hcell⟩ := World.cells?_some hc
      match cs, hcl with
      | [v0], _ =>
        obtain ⟨n0, e0, _, w0⟩ := DataW.trod_int Try.underlying3 ht
        simp at e0
        subst e0
        have a0 := hcell 0 (by omega)
        rw [add_add, add_plain] at a0
        exact ⟨n0, i64_of_wf w0, by simpa using a0⟩
    let f : Nat → Int := fun i => if h : i < len then (hall i h).choose else 0
    have hf' : ∀ i (h : i < len), f i = (hall i h).choose := fun i h => by simp [f, h]
    refine ⟨(List.range len).map f, _, _, by rw [List.length_map, List.length_range], ⟨by simp; omega, by unfold maxLen at hm; omega⟩, by simp; omega, ?_, _, _, rfl, .inr ⟨b, off, rfl, hb, ?_⟩⟩
    · intro x hx
      obtain ⟨i, hi, rfl⟩ := List.mem_map.1 hx
      rw [List.mem_range] at hi
      rw [hf' i hi]
      exact (hall i hi).choose_spec.1
    · intro i x hx
      have hi : i < len := by have := (List.getElem?_eq_some_iff.1 hx).1; simpa using this
      simp [hi] at hx
      subst hx
      rw [hf' i hi]
      exact (hall i hi).choose_spec.2
/-- A slice of splits that came in. -/
theorem open_splits {H : Type} {enc : TypeId × Value → H} {W : World} {fuel : Nat} {v : Value} {d : DataW H × List MemPlace} (hf : DataW.trod enc Try.prog W 0 (fun _ => true) true fuel 22 [v] = some d) (hlg : Light Try.prog 22 d.1) :
    ∃ (l : List Sp) (a : Option Addr) (cap : Nat), v = .slice a l.length cap ∧ (l.length ≤ cap ∧ cap ≤ 9223372036854775807) ∧ l.length ≤ 17592186043904 ∧ (∀ s ∈ l, WfSp s) ∧ PS W (.slice a l.length cap) l := by
  rcases open_slice Try.underlying22 hf with ⟨hcs, _⟩ | ⟨x, len, c, m, n, D, Pl, hcs, _, hl, hm, hmm, hx, hel⟩
  · simp at hcs
    subst hcs
    exact ⟨[], none, 0, rfl, by simp, Nat.zero_le _, fun x hx => by simp at hx, none, 0, rfl, .inl rfl⟩
  · simp at hcs
    subst hcs
    simp at hmm
    subst hmm
    subst hx
    obtain ⟨hlg1, hlg2⟩ := light_slice Try.underlying22 hlg
    rw [Try.bytesSplit] at hlg1
    simp only [List.length_map, List.length_range] at hlg1
    unfold reachBytes at hlg1
    have hlg3 : ∀ i, i < len → Light Try.prog 35 (D i) := fun i hi => hlg2 _ (List.mem_map.2 ⟨i, List.mem_range.2 hi, rfl⟩)
    clear hlg2
    by_cases h0 : len = 0
    · subst h0
      exact ⟨[], _, _, rfl, ⟨Nat.zero_le _, by unfold maxLen at hm; omega⟩, Nat.zero_le _, fun x hx => by simp at hx, _, _, rfl, .inl rfl⟩
    obtain ⟨b, off, spot⟩ := x
    rw [Try.cellsSplit] at hel
    have first := hel 0 (by omega)
    obtain ⟨cs, hc, _⟩ := first
    obtain ⟨_, hcl, hcell⟩ := World.cells?_some hc
    have hspot : spot = none := by
      have e := hcell 0 (by omega)
      match cs, hcl with
      | [v0, v1, v2], _ => simpa [Addr.add] using World.cell?_spot e
    subst hspot
    have hb : b < W.heap.size := by simpa [add_plain] using World.cells?_block hc (by decide)
    have hall : ∀ i, i < len → ∃ y : Sp, WfSp y ∧ SpAt W b (off + i * 3) y := by
      intro i hi
      obtain ⟨cs, hc, ht⟩ := hel i (by omega)
      obtain ⟨_, hcl, hcell⟩ := World.cells?_some hc
      obtain ⟨xs, k, hk, hD, _, hxl, hfld⟩ := DataW.trod_struct Try.underlying35 ht
      have hg := hlg3 i hi
      injection hD with hD _
      rw [hD] at hg
      match cs, hcl, xs, hxl with
      | [v0, v1, v2], _, [y0, y1, y2], _ =>
        have g0 := hfld 0 _ rfl
        have g1 := hfld 1 _ rfl
        have g2 := hfld 2 _ rfl
        simp [Try.cells3, Try.cells9, Try.cellsInts] at g0 g1 g2
        have hg1 := light_agg Try.underlying35 hg (j := 1) (u := 9) (d := y1.1) rfl rfl
        have hg2 := light_agg Try.underlying35 hg (j := 2) (u := 25) (d := y2.1) rfl rfl
        obtain ⟨n0, e0, _, w0⟩ := DataW.trod_int Try.underlying3 g0
        obtain ⟨s1, e1, x1, _⟩ := DataW.trod_string Try.underlying9 g1
        rw [x1] at hg1
        have w1 := light_string hg1
        unfold reachBytes at w1
        obtain ⟨l, a, cap', e2, ⟨hcc, _⟩, hll, hwl, hns⟩ := open_ints g2 hg2
        simp at e0 e1
        subst e0 e1 e2
        have a0 := hcell 0 (by omega)
        have a1 := hcell 1 (by omega)
        have a2 := hcell 2 (by omega)
        rw [add_add, add_plain] at a0 a1 a2
        exact ⟨(n0, s1, l), ⟨i64_of_wf w0, w1, hll, hwl⟩, by simpa using a0, by simpa [Nat.add_assoc] using a1, a, cap', by simpa [Nat.add_assoc] using a2, hns, hcc⟩
    let g : Nat → Sp := fun i => if h : i < len then (hall i h).choose else s0
    have hg' : ∀ i (h : i < len), g i = (hall i h).choose := fun i h => by simp [g, h]
    refine ⟨(List.range len).map g, _, _, by rw [List.length_map, List.length_range], ⟨by simp; omega, by unfold maxLen at hm; omega⟩, by simp; omega, ?_, _, _, rfl, .inr ⟨b, off, rfl, hb, ?_⟩⟩
    · intro x hx
      obtain ⟨i, hi, rfl⟩ := List.mem_map.1 hx
      rw [List.mem_range] at hi
      rw [hg' i hi]
      exact (hall i hi).choose_spec.1
    · intro i x hx
      have hi : i < len := by have := (List.getElem?_eq_some_iff.1 hx).1; simpa using this
      simp [hi] at hx
      subst hx
      rw [hg' i hi]
      exact (hall i hi).choose_spec.2
/-- What comes in. -/
structure In12 (W : World) (c : Cfg) (vp vl : Value) (l : List Int) : Prop where
  cfg : InC W c vp
  cap : ∃ a k, vp = .slice a c.splits.length k ∧ c.splits.length ≤ k ∧ k ≤ 9223372036854775807
  ns : NS W vl l
  len : l.length ≤ 17592186043904
  num : ∀ x ∈ l, -9223372036854775808 ≤ x ∧ x ≤ 9223372036854775807
  lcap : ∃ a k, vl = .slice a l.length k ∧ l.length ≤ k ∧ k ≤ 9223372036854775807
theorem In12.below {W W' : World} {c : Cfg} {vp vl : Value} {l : List Int} (h : In12 W c vp vl l) (hb : Below W.heap.size W W') : In12 W' c vp vl l := ⟨h.cfg.below hb, h.cap, h.ns.below hb, h.len, h.num, h.lcap⟩
abbrev askV12 (c : Cfg) (vp vl : Value) : Value := .agg #[.int .i64 c.sites, vp, .int .i64 c.again, .int .i64 c.over, vl]
theorem open_ask12 {H : Type} {enc : TypeId × Value → H} {W : World} {base : Nat} {v : Value} {d : DataW H} {p : List MemPlace} (hv : Value.okWide Try.prog W .any base 27 v) (h : DataW.Trod enc Try.prog W 0 (fun _ => true) true 27 v d p) (hlg : Light Try.prog 27 d) :
    ∃ c vp vl l, v = askV12 c vp vl ∧ In12 W c vp vl l := by
  obtain ⟨cs, rfl, hcs⟩ := okWide_struct Try.underlying27 hv
  rw [Try.cellsAsk12] at hcs
  obtain ⟨fuel, hf⟩ := h
  obtain ⟨xs, k, _, hD, _, hxl, hfld⟩ := DataW.trod_struct Try.underlying27 hf
  injection hD with hD _
  rw [hD] at hlg
  obtain ⟨cl⟩ := cs
  match cl, hcs, xs, hxl with
  | [v0, v1, v2, v3, v4], _, [y0, y1], _ =>
    have g0 := hfld 0 _ rfl
    have g1 := hfld 1 _ rfl
    have hg0 := light_agg Try.underlying27 hlg (j := 0) (u := 24) (d := y0.1) rfl rfl
    have hg1 := light_agg Try.underlying27 hlg (j := 1) (u := 25) (d := y1.1) rfl rfl
    simp [Try.cellsCfg, Try.cellsInts, Value.cells] at g0 g1
    obtain ⟨xs', k', _, hD', _, hxl', hfld'⟩ := DataW.trod_struct Try.underlying24 g0
    rw [hD'] at hg0
    match xs', hxl' with
    | [z0, z1, z2, z3], _ =>
      have g2 := hfld' 0 _ rfl
      have g3 := hfld' 1 _ rfl
      have g4 := hfld' 2 _ rfl
      have g5 := hfld' 3 _ rfl
      have hg3 := light_agg Try.underlying24 hg0 (j := 1) (u := 22) (d := z1.1) rfl rfl
      simp [Try.cells3, Try.cellsSplits] at g2 g3 g4 g5
      obtain ⟨n0, e0, _, w0⟩ := DataW.trod_int Try.underlying3 g2
      obtain ⟨n2, e2, _, w2⟩ := DataW.trod_int Try.underlying3 g4
      obtain ⟨n3, e3, _, w3⟩ := DataW.trod_int Try.underlying3 g5
      obtain ⟨sl, sa, sc, es, scap, q1, q2, q3⟩ := open_splits g3 hg3
      obtain ⟨il, ia, ic, ei, icap, r1, r2, r3⟩ := open_ints g1 hg1
      simp at e0 e2 e3
      subst e0 e2 e3 es ei
      exact ⟨⟨n0, sl, n2, n3⟩, _, _, il, rfl, ⟨⟨i64_of_wf w0, i64_of_wf w2, i64_of_wf w3, q3, q1, q2⟩, ⟨sa, sc, rfl, scap⟩, r3, r1, r2, ⟨ia, ic, rfl, icap⟩⟩⟩
end Go.Proofs.Ytdejdcibcihfeaa
