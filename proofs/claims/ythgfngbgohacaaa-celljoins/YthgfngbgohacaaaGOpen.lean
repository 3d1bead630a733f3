/- The law's argument: cells, numbers, bytes, opened. -/
import Derived.Test.YthgfngbgohacaaaGRow
import Derived.Test.YthgfngbgohacaaaLight
import Derived.ProofKit
import Derived.OpenShut
import Derived.ShutString
import Derived.ChangeOld
import Derived.Below
import Derived.Deep.Slices
import Derived.OwnWalk
import Derived.ChangeArms
namespace Go.Proofs.Ythgfngbgohacaaa
open Go.ChangeShapes Go.WideShapes Go.ChangeAt Go.RowKit Go.Deep
open Go.ChangeMaps (open_string shut_string)
set_option linter.unusedVariables false
set_option maxRecDepth 100000

theorem Try.cellsAsk9 : Try.prog.cellsOf 25 = 5 := by kernel_rfl
theorem Try.cellsCell : Try.prog.cellsOf 29 = 2 := by kernel_rfl
theorem Try.bytesCell : Try.prog.bytesOf 29 = 32 := by kernel_rfl
theorem Try.cellsLongs : Try.prog.cellsOf 23 = 1 := by kernel_rfl
theorem Try.cellsCells : Try.prog.cellsOf 22 = 1 := by kernel_rfl
theorem Try.cells2 : Try.prog.cellsOf 2 = 1 := by kernel_rfl
theorem Try.cells3 : Try.prog.cellsOf 3 = 1 := by kernel_rfl
theorem Try.cells9 : Try.prog.cellsOf 9 = 1 := by kernel_rfl
theorem Try.bytes2 : Try.prog.bytesOf 2 = 8 := by kernel_rfl
theorem i64_of_wf {n : Int} (h : (Lit.int .i64 n).wf = true) : Num64 n := by
  unfold Num64
  simpa [Lit.wf, IntKind.min, IntKind.max, IntKind.signed, IntKind.bits] using h
/-- Numbers that an int64 holds. -/
def WfL (l : List Int) : Prop := ∀ x ∈ l, Num64 x
/-- A slice of numbers that came in. -/
theorem open_longs {H : Type} {enc : TypeId × Value → H} {W : World} {fuel : Nat} {v : Value} {d : DataW H × List MemPlace} (hf : DataW.trod enc Try.prog W 0 (fun _ => true) true fuel 23 [v] = some d) (hlg : Light Try.prog 23 d.1) :
    ∃ (l : List Int) (a : Option Addr) (cap : Nat), v = .slice a l.length cap ∧ (l.length ≤ cap ∧ cap ≤ 9223372036854775807) ∧ l.length ≤ 17592186043904 ∧ WfL l ∧ NS W (.slice a l.length cap) l := by
  rcases open_slice Try.underlying23 hf with ⟨hcs, _⟩ | ⟨x, len, c, m, n, D, Pl, hcs, _, hl, hm, hmm, hx, hel⟩
  · simp at hcs
    subst hcs
    exact ⟨[], none, 0, rfl, by simp, Nat.zero_le _, fun x hx => by simp at hx, none, 0, rfl, .inl rfl⟩
  · simp at hcs
    subst hcs
    simp at hmm
    subst hmm
    subst hx
    obtain ⟨hlg1, hlg2⟩ := light_slice Try.underlying23 hlg
    rw [Try.bytes2] at hlg1
    simp only [List.length_map, List.length_range] at hlg1
    unfold reachBytes at hlg1
    by_cases h0 : len = 0
    · subst h0
      exact ⟨[], _, _, rfl, ⟨Nat.zero_le _, by unfold maxLen at hm; omega⟩, Nat.zero_le _, fun x hx => by simp at hx, _, _, rfl, .inl rfl⟩
    obtain ⟨b, off, spot⟩ := x
    rw [Try.cells2] at hel
    have first := hel 0 (by omega)
    obtain ⟨cs, hc, _⟩ := first
    obtain ⟨_, hcl, hcell⟩ := World.cells?_some hc
    have hspot : spot = none := by
      have e := hcell 0 (by omega)
      match cs, hcl with
      | [v0], _ => simpa [Addr.add] using World.cell?_spot e
    subst hspot
    have hb : b < W.heap.size := by simpa [add_plain] using World.cells?_block hc (by decide)
    have hall : ∀ i, i < len → ∃ y : Int, Num64 y ∧ W.cell? ⟨b, off + i, none⟩ = some (.int .i64 y) := by
      intro i hi
      obtain ⟨cs, hc, ht⟩ := hel i (by omega)
      obtain ⟨_, hcl, hcell⟩ := World.cells?_some hc
      match cs, hcl with
      | [v0], _ =>
        obtain ⟨n0, e0, _, w0⟩ := DataW.trod_int Try.underlying2 ht
        simp at e0
        subst e0
        have a0 := hcell 0 (by omega)
        rw [add_add, add_plain] at a0
        exact ⟨n0, i64_of_wf w0, by simpa using a0⟩
    let f : Nat → Int := fun i => if h : i < len then (hall i h).choose else 0
    have hf' : ∀ i (h : i < len), f i = (hall i h).choose := fun i h => by simp [f, h]
    refine ⟨(List.range len).map f, _, _, by rw [List.length_map, List.length_range], ⟨by simp; omega, by unfold maxLen at hm; omega⟩, by simp; omega, ?_, _, _, rfl, .inr ⟨b, off, rfl, hb, ?_⟩⟩
    · intro x hx
      obtain ⟨i, hi, rfl⟩ := List.mem_map.1 hx
      rw [List.mem_range] at hi
      rw [hf' i hi]
      exact (hall i hi).choose_spec.1
    · intro i x hx
      have hi : i < len := by have := (List.getElem?_eq_some_iff.1 hx).1; simpa using this
      simp [hi] at hx
      subst hx
      rw [hf' i hi]
      exact (hall i hi).choose_spec.2
/-- From a place on cells lie, one behind the other. -/
def CellsAt (w : World) (b off : Nat) (L : List Cl) : Prop := ∀ i c, L[i]? = some c → w.cell? ⟨b, off + i * 2, none⟩ = some (.int .i64 c.1) ∧ ∃ a cap, w.cell? ⟨b, off + i * 2 + 1, none⟩ = some (.slice a c.2.length cap) ∧ NS w (.slice a c.2.length cap) c.2
def LS (w : World) (v : Value) (L : List Cl) : Prop := ∃ a cap, v = .slice a L.length cap ∧ (L = [] ∨ ∃ b off, a = some ⟨b, off, none⟩ ∧ b < w.heap.size ∧ CellsAt w b off L)
theorem CellsAt.below {w w' : World} {b off : Nat} {L : List Cl} (h : CellsAt w b off L) (hb : Below w.heap.size w w') (hlt : b < w.heap.size) : CellsAt w' b off L := fun i c hc => by
  obtain ⟨h1, a, cap, h2, h3⟩ := h i c hc
  exact ⟨(hb.cell (p := ⟨b, off + i * 2, none⟩) hlt).trans h1, a, cap, (hb.cell (p := ⟨b, off + i * 2 + 1, none⟩) hlt).trans h2, h3.below hb⟩
theorem LS.below {w w' : World} {v : Value} {L : List Cl} (h : LS w v L) (hb : Below w.heap.size w w') : LS w' v L := by
  obtain ⟨a, cap, rfl, h⟩ := h
  refine ⟨a, cap, rfl, ?_⟩
  rcases h with h | ⟨b, off, rfl, hlt, h⟩
  · exact .inl h
  · exact .inr ⟨b, off, rfl, Nat.lt_of_lt_of_le hlt hb.size, h.below hb hlt⟩
/-- Cells whose numbers an int64 holds, of such sizes as a machine has. -/
def WfCs (L : List Cl) : Prop := ∀ c ∈ L, WfC c ∧ c.2.length ≤ 17592186043904
theorem open_cells {H : Type} {enc : TypeId × Value → H} {W : World} {fuel : Nat} {v : Value} {d : DataW H × List MemPlace} (hf : DataW.trod enc Try.prog W 0 (fun _ => true) true fuel 22 [v] = some d) (hlg : Light Try.prog 22 d.1) :
    ∃ L : List Cl, L.length ≤ 17592186043904 ∧ WfCs L ∧ LS W v L := by
  rcases DataW.trod_slice Try.underlying22 hf with ⟨hcs, _⟩ | ⟨x, len, cap, elems, rest, n, hfu, hcs, hx, _, hl, hm, hel, hall, _, _⟩
  · simp at hcs
    subst hcs
    exact ⟨[], Nat.zero_le _, fun x hx => by simp at hx, none, 0, rfl, .inl rfl⟩
  · simp at hcs
    subst hcs
    subst hx
    obtain ⟨hlg1, hlg2⟩ := light_slice Try.underlying22 hlg
    rw [Try.bytesCell] at hlg1
    simp only [List.length_map] at hlg1
    unfold reachBytes at hlg1
    by_cases h0 : len = 0
    · subst h0
      exact ⟨[], Nat.zero_le _, fun x hx => by simp at hx, _, _, rfl, .inl rfl⟩
    obtain ⟨b, off, spot⟩ := x
    rw [Try.cellsCell] at hall
    have hget : ∀ i, i < len → ∃ cs y, W.cells? 0 ((⟨b, off, spot⟩ : Addr).add (i * 2)) 2 = some cs ∧ DataW.trod enc Try.prog W 0 (fun _ => true) true n 29 cs = some y ∧ elems[i]? = some y := by
      intro i hi
      have := hall i hi
      obtain ⟨y, hy⟩ : ∃ y, elems[i]? = some y := ⟨_, List.getElem?_eq_getElem (by omega)⟩
      rw [hy] at this
      cases hc : W.cells? 0 ((⟨b, off, spot⟩ : Addr).add (i * 2)) 2 with
      | none => rw [hc] at this; simp at this
      | some cs => rw [hc] at this; exact ⟨cs, y, rfl, by simpa using this, hy⟩
    obtain ⟨cs, _, hc, _, _⟩ := hget 0 (by omega)
    obtain ⟨_, hcl, hcell⟩ := World.cells?_some hc
    have hspot : spot = none := by
      have e := hcell 0 (by omega)
      match cs, hcl with
      | [v0, v1], _ => simpa [Addr.add] using World.cell?_spot e
    subst hspot
    have hb : b < W.heap.size := by simpa [add_plain] using World.cells?_block hc (by decide)
    have hone : ∀ i, i < len → ∃ y : Cl, (WfC y ∧ y.2.length ≤ 17592186043904) ∧ W.cell? ⟨b, off + i * 2, none⟩ = some (.int .i64 y.1) ∧ ∃ a cap, W.cell? ⟨b, off + i * 2 + 1, none⟩ = some (.slice a y.2.length cap) ∧ NS W (.slice a y.2.length cap) y.2 := by
      intro i hi
      obtain ⟨cs, y, hc, ht, hy⟩ := hget i hi
      obtain ⟨_, hcl, hcell⟩ := World.cells?_some hc
      obtain ⟨xs, k, hk, hD, _, hxl, hfld⟩ := DataW.trod_struct Try.underlying29 ht
      obtain ⟨y0, y1, rfl⟩ : ∃ y0 y1, xs = [y0, y1] := by
        match xs, hxl with
        | [y0, y1], _ => exact ⟨y0, y1, rfl⟩
      have hg : Light Try.prog 29 y.1 := hlg2 _ (List.mem_map.2 ⟨y, List.mem_of_getElem? hy, rfl⟩)
      have hD1 : y.1 = .agg [y0.1, y1.1] := by rw [hD]; rfl
      rw [hD1] at hg
      match cs, hcl with
      | [v0, v1], _ =>
        have g0 := hfld 0 _ rfl
        have g1 := hfld 1 _ rfl
        simp [Try.cells2, Try.cellsLongs] at g0 g1
        have hg1 := light_agg Try.underlying29 hg (j := 1) (u := 23) (d := y1.1) rfl rfl
        obtain ⟨n0, e0, _, w0⟩ := DataW.trod_int Try.underlying2 g0
        obtain ⟨l, a, cap', e1, _, hll, hwl, hns⟩ := open_longs g1 hg1
        simp at e0
        subst e0 e1
        have a0 := hcell 0 (by omega)
        have a1 := hcell 1 (by omega)
        rw [add_add, add_plain] at a0 a1
        exact ⟨(n0, l), ⟨⟨i64_of_wf w0, hwl⟩, hll⟩, by simpa using a0, a, cap', by simpa [Nat.add_assoc] using a1, hns⟩
    let g : Nat → Cl := fun i => if h : i < len then (hone i h).choose else (0, [])
    have hg' : ∀ i (h : i < len), g i = (hone i h).choose := fun i h => by simp [g, h]
    refine ⟨(List.range len).map g, by simp; omega, ?_, _, cap, by simp, .inr ⟨b, off, rfl, hb, ?_⟩⟩
    · intro x hx
      obtain ⟨i, hi, rfl⟩ := List.mem_map.1 hx
      rw [List.mem_range] at hi
      rw [hg' i hi]
      exact (hone i hi).choose_spec.1
    · intro i x hx
      have hi : i < len := by have := (List.getElem?_eq_some_iff.1 hx).1; simpa using this
      simp [hi] at hx
      subst hx
      rw [hg' i hi]
      exact (hone i hi).choose_spec.2
/-- What comes in. -/
structure In9 (W : World) (agg bound : Int) (vl vv : Value) (x : ByteArray) (L : List Cl) (l : List Int) : Prop where
  hagg : Num64 agg
  hbound : Num64 bound
  hL : LS W vl L ∧ L.length ≤ 17592186043904 ∧ WfCs L
  hl : NS W vv l ∧ l.length ≤ 17592186043904 ∧ WfL l
  hcap : ∃ a cap, vv = .slice a l.length cap ∧ l.length ≤ cap ∧ cap ≤ 9223372036854775807
  hx : x.size ≤ 140737488351232
theorem open_ask9 {H : Type} {enc : TypeId × Value → H} {W : World} {base : Nat} {v : Value} {d : DataW H} {p : List MemPlace} (hv : Value.okWide Try.prog W .any base 25 v) (h : DataW.Trod enc Try.prog W 0 (fun _ => true) true 25 v d p) (hlg : Light Try.prog 25 d) :
    ∃ agg bound vl vv x L l, v = .agg #[.int .i64 agg, .int .i64 bound, vl, vv, .string x] ∧ In9 W agg bound vl vv x L l := by
  obtain ⟨cs, rfl, hcs⟩ := okWide_struct Try.underlying25 hv
  rw [Try.cellsAsk9] at hcs
  obtain ⟨fuel, hf⟩ := h
  obtain ⟨xs, k, _, hD, _, hxl, hfld⟩ := DataW.trod_struct Try.underlying25 hf
  injection hD with hD _
  rw [hD] at hlg
  obtain ⟨cl⟩ := cs
  match cl, hcs, xs, hxl with
  | [v0, v1, v2, v3, v4], _, [y0, y1, y2, y3, y4], _ =>
    have g0 := hfld 0 _ rfl
    have g1 := hfld 1 _ rfl
    have g2 := hfld 2 _ rfl
    have g3 := hfld 3 _ rfl
    have g4 := hfld 4 _ rfl
    have hg2 := light_agg Try.underlying25 hlg (j := 2) (u := 22) (d := y2.1) rfl rfl
    have hg3 := light_agg Try.underlying25 hlg (j := 3) (u := 23) (d := y3.1) rfl rfl
    simp [Try.cells3, Try.cells9, Try.cellsCells, Try.cellsLongs, Value.cells] at g0 g1 g2 g3 g4
    obtain ⟨n0, e0, _, w0⟩ := DataW.trod_int Try.underlying3 g0
    obtain ⟨n1, e1, _, w1⟩ := DataW.trod_int Try.underlying3 g1
    have hg4 := light_agg Try.underlying25 hlg (j := 4) (u := 9) (d := y4.1) rfl rfl
    obtain ⟨s4, e4, d4, w4⟩ := DataW.trod_string Try.underlying9 g4
    rw [d4] at hg4
    have w5 := light_string hg4
    unfold reachBytes at w5
    simp at e0 e1 e4
    subst e0 e1 e4
    obtain ⟨L, q1, q2, q3⟩ := open_cells g2 hg2
    obtain ⟨l, a, cap, e3, hcap, r1, r2, r3⟩ := open_longs g3 hg3
    subst e3
    exact ⟨_, _, _, _, _, L, l, rfl, ⟨i64_of_wf w0, i64_of_wf w1, ⟨q3, q1, q2⟩, ⟨r3, r1, r2⟩, ⟨a, cap, rfl, hcap⟩, w5⟩⟩
end Go.Proofs.Ythgfngbgohacaaa
