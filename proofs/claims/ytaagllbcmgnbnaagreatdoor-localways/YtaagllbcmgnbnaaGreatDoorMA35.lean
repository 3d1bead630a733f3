/- The law's argument, opened: runs of rows, records, bytes. -/
import Derived.Test.YtaagllbcmgnbnaaGreatDoorMA4
import Derived.Test.YtaagllbcmgnbnaaGreatDoorMA3
import Derived.ProofKit
import Derived.OpenShut
import Derived.ShutString
import Derived.ChangeOld
import Derived.Below
import Derived.Deep.Slices
import Derived.OwnWalk
import Derived.ChangeArms
namespace Go.Proofs.YtaagllbcmgnbnaaGreatDoor
open Go.ChangeShapes Go.WideShapes Go.ChangeAt Go.RowKit Go.Deep
open Go.ChangeMaps (open_string shut_string)
set_option linter.unusedVariables false
set_option maxRecDepth 100000

theorem Tryz.cellsAsk10 : Tryz.prog.cellsOf 25 = 5 := by kernel_rfl
theorem Tryz.cellsRow : Tryz.prog.cellsOf 82 = 4 := by kernel_rfl
theorem Tryz.bytesRow : Tryz.prog.bytesOf 82 = 56 := by kernel_rfl
theorem Tryz.cellsRows : Tryz.prog.cellsOf 37 = 1 := by kernel_rfl
theorem Tryz.bytesRows : Tryz.prog.bytesOf 37 = 24 := by kernel_rfl
theorem Tryz.cellsRuns : Tryz.prog.cellsOf 22 = 1 := by kernel_rfl
theorem Tryz.cellsCell : Tryz.prog.cellsOf 80 = 2 := by kernel_rfl
theorem Tryz.cellsLongs : Tryz.prog.cellsOf 78 = 1 := by kernel_rfl
theorem Tryz.cells3 : Tryz.prog.cellsOf 3 = 1 := by kernel_rfl
theorem Tryz.bytes2 : Tryz.prog.bytesOf 2 = 8 := by kernel_rfl
/-- Numbers that an int64 holds. -/
def WfL (l : List Int) : Prop := ∀ x ∈ l, Num64 x
/-- A slice of numbers that came in. -/
theorem open_longs {H : Type} {enc : TypeId × Value → H} {W : World} {fuel : Nat} {v : Value} {d : DataW H × List MemPlace} (hf : DataW.trod enc Tryz.prog W 0 (fun _ => true) true fuel 78 [v] = some d) (hlg : Light Tryz.prog 78 d.1) :
    ∃ (l : List Int) (a : Option Addr) (cap : Nat), v = .slice a l.length cap ∧ (l.length ≤ cap ∧ cap ≤ 9223372036854775807) ∧ l.length ≤ 17592186043904 ∧ WfL l ∧ NS W (.slice a l.length cap) l := by
  rcases open_slice Tryz.underlying78 hf with ⟨hcs, _⟩ | ⟨x, len, c, m, n, D, Pl, hcs, _, hl, hm, hmm, hx, hel⟩
  · simp at hcs
    subst hcs
    exact ⟨[], none, 0, rfl, by simp, Nat.zero_le _, fun x hx => by simp at hx, none, 0, rfl, .inl rfl⟩
  · simp at hcs
    subst hcs
    simp at hmm
    subst hmm
    subst hx
    obtain ⟨hlg1, hlg2⟩ := light_slice Tryz.underlying78 hlg
    rw [Tryz.bytes2] at hlg1
    simp only [List.length_map, List.length_range] at hlg1
    unfold reachBytes at hlg1
    by_cases h0 : len = 0
    · subst h0
      exact ⟨[], _, _, rfl, ⟨Nat.zero_le _, by unfold maxLen at hm; omega⟩, Nat.zero_le _, fun x hx => by simp at hx, _, _, rfl, .inl rfl⟩
    obtain ⟨b, off, spot⟩ := x
    rw [Tryz.cells2] at hel
    have first := hel 0 (by omega)
    obtain ⟨cs, hc, _⟩ := first
    obtain ⟨_, hcl, hcell⟩ := World.cells?_some hc
    have hspot : spot = none := by
      have e := hcell 0 (by omega)
      match cs, hcl with
      | [v0], _ => simpa [Addr.add] using World.cell?_spot e
    subst hspot
    have hb : b < W.heap.size := by simpa [add_plain] using World.cells?_block hc (by decide)
    have hall : ∀ i, i < len → ∃ y : Int, Num64 y ∧ W.cell? ⟨b, off + i, none⟩ = some (.int .i64 y) := by
      intro i hi
      obtain ⟨cs, hc, ht⟩ := hel i (by omega)
      obtain ⟨_, hcl, hcell⟩ := World.cells?_some hc
      match cs, hcl with
      | [v0], _ =>
        obtain ⟨n0, e0, _, w0⟩ := DataW.trod_int Tryz.underlying2 ht
        simp at e0
        subst e0
        have a0 := hcell 0 (by omega)
        rw [add_add, add_plain] at a0
        exact ⟨n0, i64_of_wf w0, by simpa using a0⟩
    let f : Nat → Int := fun i => if h : i < len then (hall i h).choose else 0
    have hf' : ∀ i (h : i < len), f i = (hall i h).choose := fun i h => by simp [f, h]
    refine ⟨(List.range len).map f, _, _, by rw [List.length_map, List.length_range], ⟨by simp; omega, by unfold maxLen at hm; omega⟩, by simp; omega, ?_, _, _, rfl, .inr ⟨b, off, rfl, hb, ?_⟩⟩
    · intro x hx
      obtain ⟨i, hi, rfl⟩ := List.mem_map.1 hx
      rw [List.mem_range] at hi
      rw [hf' i hi]
      exact (hall i hi).choose_spec.1
    · intro i x hx
      have hi : i < len := by have := (List.getElem?_eq_some_iff.1 hx).1; simpa using this
      simp [hi] at hx
      subst hx
      rw [hf' i hi]
      exact (hall i hi).choose_spec.2
/-- A slice of records that came in. -/
theorem open_recs {H : Type} {enc : TypeId × Value → H} {W : World} {fuel : Nat} {a : Option Addr} {len cap : Nat} {d : DataW H × List MemPlace} (hf : DataW.trod enc Tryz.prog W 0 (fun _ => true) true fuel 23 [.slice a len cap] = some d) (hlg : Light Tryz.prog 23 d.1) :
    ∃ l : List Rc, l.length = len ∧ (len ≤ cap ∧ cap ≤ 9223372036854775807) ∧ l.length ≤ 4398046510976 ∧ Wf l ∧ RS W (.slice a len cap) l := by
  rcases open_slice Tryz.underlying23 hf with ⟨hcs, _⟩ | ⟨x, l, c, m, n, D, Pl, hcs, _, hl, hm, hmm, hx, hel⟩
  · simp at hcs
    obtain ⟨rfl, rfl, rfl⟩ := hcs
    exact ⟨[], rfl, by simp, Nat.zero_le _, fun x hx => by simp at hx, none, 0, rfl, .inl rfl⟩
  · simp at hcs
    obtain ⟨rfl, rfl, rfl⟩ := hcs
    simp at hmm
    subst hmm
    subst hx
    obtain ⟨hlg1, hlg2⟩ := light_slice Tryz.underlying23 hlg
    rw [Tryz.bytesRec] at hlg1
    simp only [List.length_map, List.length_range] at hlg1
    unfold reachBytes at hlg1
    have hlg3 : ∀ i, i < len → Light Tryz.prog 68 (D i) := fun i hi => hlg2 _ (List.mem_map.2 ⟨i, List.mem_range.2 hi, rfl⟩)
    clear hlg2
    by_cases h0 : len = 0
    · subst h0
      exact ⟨[], rfl, ⟨Nat.zero_le _, by unfold maxLen at hm; omega⟩, Nat.zero_le _, fun x hx => by simp at hx, _, _, rfl, .inl rfl⟩
    obtain ⟨b, off, spot⟩ := x
    rw [Tryz.cellsRec] at hel
    have first := hel 0 (by omega)
    obtain ⟨cs, hc, _⟩ := first
    obtain ⟨_, hcl, hcell⟩ := World.cells?_some hc
    have hspot : spot = none := by
      have e := hcell 0 (by omega)
      match cs, hcl with
      | [v0, v1, v2], _ => simpa [Addr.add] using World.cell?_spot e
    subst hspot
    have hb : b < W.heap.size := by simpa [add_plain] using World.cells?_block hc (by decide)
    have hall : ∀ i, i < len → ∃ y : Rc, Wr y ∧ W.cell? ⟨b, off + i * 3, none⟩ = some (.int .i64 y.1.1) ∧ W.cell? ⟨b, off + i * 3 + 1, none⟩ = some (.string y.1.2) ∧ W.cell? ⟨b, off + i * 3 + 2, none⟩ = some (.int .i64 y.2) := by
      intro i hi
      obtain ⟨cs, hc, ht⟩ := hel i (by omega)
      obtain ⟨_, hcl, hcell⟩ := World.cells?_some hc
      obtain ⟨xs, k, hk, hD, _, hxl, hfld⟩ := DataW.trod_struct Tryz.underlying68 ht
      have hg := hlg3 i hi
      injection hD with hD _
      rw [hD] at hg
      match cs, hcl, xs, hxl with
      | [v0, v1, v2], _, [y0, y1], _ =>
        have g0 := hfld 0 _ rfl
        have g1 := hfld 1 _ rfl
        simp [Tryz.cells2, Tryz.cellsKey] at g0 g1
        have hg0 := light_agg Tryz.underlying68 hg (j := 0) (u := 66) (d := y0.1) rfl rfl
        obtain ⟨xs', k', _, hD', _, hxl', hfld'⟩ := DataW.trod_struct Tryz.underlying66 g0
        rw [hD'] at hg0
        match xs', hxl' with
        | [z0, z1], _ =>
          have g2 := hfld' 0 _ rfl
          have g3 := hfld' 1 _ rfl
          simp [Tryz.cells2, Tryz.cells9] at g2 g3
          obtain ⟨n0, e0, _, w0⟩ := DataW.trod_int Tryz.underlying2 g2
          have hg1 := light_agg Tryz.underlying66 hg0 (j := 1) (u := 9) (d := z1.1) rfl rfl
          obtain ⟨s3, e3, x3, _⟩ := DataW.trod_string Tryz.underlying9 g3
          rw [x3] at hg1
          have w3 := light_string hg1
          unfold reachBytes at w3
          obtain ⟨n1, e1, _, w1⟩ := DataW.trod_int Tryz.underlying2 g1
          simp at e0 e3 e1
          subst e0 e3 e1
          have a0 := hcell 0 (by omega)
          have a1 := hcell 1 (by omega)
          have a2 := hcell 2 (by omega)
          rw [add_add, add_plain] at a0 a1 a2
          exact ⟨((n0, s3), n1), ⟨(i64_of_wf w0).1, (i64_of_wf w0).2, w3, (i64_of_wf w1).1, (i64_of_wf w1).2⟩, by simpa using a0, by simpa [Nat.add_assoc] using a1, by simpa [Nat.add_assoc] using a2⟩
    let f : Nat → Rc := fun i => if h : i < len then (hall i h).choose else r0
    have hf' : ∀ i (h : i < len), f i = (hall i h).choose := fun i h => by simp [f, h]
    refine ⟨(List.range len).map f, by simp, ⟨hl, by unfold maxLen at hm; omega⟩, by simp; omega, ?_, _, m, by simp, .inr ⟨b, off, rfl, hb, ?_⟩⟩
    · intro x hx
      obtain ⟨i, hi, rfl⟩ := List.mem_map.1 hx
      rw [List.mem_range] at hi
      rw [hf' i hi]
      exact (hall i hi).choose_spec.1
    · intro i x hx
      have hi : i < len := by have := (List.getElem?_eq_some_iff.1 hx).1; simpa using this
      simp [hi] at hx
      subst hx
      rw [hf' i hi]
      exact (hall i hi).choose_spec.2
/-- A row that came in: numbers that an int64 holds, a text that may be. -/
structure WfR (r : Rw) : Prop where
  k : (-9223372036854775808 ≤ r.1.1 ∧ r.1.1 ≤ 9223372036854775807) ∧ r.1.2.size ≤ 140737488351232
  c : WfC r.2
  l : r.2.2.length ≤ 17592186043904
def WfRs (L : List Rw) : Prop := ∀ r ∈ L, WfR r
/-- Runs of rows. -/
def RunsAt (w : World) (b off : Nat) (L : List (List Rw)) : Prop := ∀ (i : Nat) (l : List Rw), L[i]? = some l → ∃ u, w.cell? ⟨b, off + i, none⟩ = some u ∧ WS w u l ∧ CapOk u
def LLS (w : World) (v : Value) (L : List (List Rw)) : Prop := ∃ a cap, v = .slice a L.length cap ∧ (L = [] ∨ ∃ b off, a = some ⟨b, off, none⟩ ∧ b < w.heap.size ∧ RunsAt w b off L)
theorem RunsAt.below {w w' : World} {b off : Nat} {L : List (List Rw)} (h : RunsAt w b off L) (hb : Below w.heap.size w w') (hlt : b < w.heap.size) : RunsAt w' b off L := fun i l hl => by
  obtain ⟨u, h1, h2, h3⟩ := h i l hl
  exact ⟨u, (hb.cell (p := ⟨b, _, none⟩) hlt).trans h1, h2.below hb, h3⟩
theorem LLS.below {w w' : World} {v : Value} {L : List (List Rw)} (h : LLS w v L) (hb : Below w.heap.size w w') : LLS w' v L := by
  obtain ⟨a, cap, rfl, h⟩ := h
  refine ⟨a, cap, rfl, ?_⟩
  rcases h with h | ⟨b, off, rfl, hlt, h⟩
  · exact .inl h
  · exact .inr ⟨b, off, rfl, Nat.lt_of_lt_of_le hlt hb.size, h.below hb hlt⟩
theorem open_rows {H : Type} {enc : TypeId × Value → H} {W : World} {fuel : Nat} {v : Value} {d : DataW H × List MemPlace} (hf : DataW.trod enc Tryz.prog W 0 (fun _ => true) true fuel 37 [v] = some d) (hlg : Light Tryz.prog 37 d.1) :
    ∃ L : List Rw, L.length ≤ 17592186043904 ∧ WfRs L ∧ WS W v L ∧ CapOk v := by
  rcases DataW.trod_slice Tryz.underlying37 hf with ⟨hcs, _⟩ | ⟨x, len, cap, elems, rest, n, hfu, hcs, hx, _, hl, hm, hel, hall, _, _⟩
  · simp at hcs
    subst hcs
    exact ⟨[], Nat.zero_le _, fun x hx => by simp at hx, ⟨none, 0, rfl, .inl rfl⟩, Nat.le_refl _⟩
  · simp at hcs
    subst hcs
    subst hx
    obtain ⟨hlg1, hlg2⟩ := light_slice Tryz.underlying37 hlg
    rw [Tryz.bytesRow] at hlg1
    simp only [List.length_map] at hlg1
    unfold reachBytes at hlg1
    by_cases h0 : len = 0
    · subst h0
      exact ⟨[], Nat.zero_le _, fun x hx => by simp at hx, ⟨_, _, rfl, .inl rfl⟩, hl⟩
    obtain ⟨b, off, spot⟩ := x
    rw [Tryz.cellsRow] at hall
    have hget : ∀ i, i < len → ∃ cs y, W.cells? 0 ((⟨b, off, spot⟩ : Addr).add (i * 4)) 4 = some cs ∧ DataW.trod enc Tryz.prog W 0 (fun _ => true) true n 82 cs = some y ∧ elems[i]? = some y := by
      intro i hi
      have := hall i hi
      obtain ⟨y, hy⟩ : ∃ y, elems[i]? = some y := ⟨_, List.getElem?_eq_getElem (by omega)⟩
      rw [hy] at this
      cases hc : W.cells? 0 ((⟨b, off, spot⟩ : Addr).add (i * 4)) 4 with
      | none => rw [hc] at this; simp at this
      | some cs => rw [hc] at this; exact ⟨cs, y, rfl, by simpa using this, hy⟩
    obtain ⟨cs, _, hc, _, _⟩ := hget 0 (by omega)
    obtain ⟨_, hcl, hcell⟩ := World.cells?_some hc
    have hspot : spot = none := by
      have e := hcell 0 (by omega)
      match cs, hcl with
      | [v0, v1, v2, v3], _ => simpa [Addr.add] using World.cell?_spot e
    subst hspot
    have hb : b < W.heap.size := by simpa [add_plain] using World.cells?_block hc (by decide)
    have hone : ∀ i, i < len → ∃ y : Rw, WfR y ∧ RowAtW W b (off + i * 4) y := by
      intro i hi
      obtain ⟨cs, y, hc, ht, hy⟩ := hget i hi
      obtain ⟨_, hcl, hcell⟩ := World.cells?_some hc
      obtain ⟨xs, k, hk, hD, _, hxl, hfld⟩ := DataW.trod_struct Tryz.underlying82 ht
      obtain ⟨y0, y1, rfl⟩ : ∃ y0 y1, xs = [y0, y1] := by
        match xs, hxl with
        | [y0, y1], _ => exact ⟨y0, y1, rfl⟩
      have hg : Light Tryz.prog 82 y.1 := hlg2 _ (List.mem_map.2 ⟨y, List.mem_of_getElem? hy, rfl⟩)
      have hD1 : y.1 = .agg [y0.1, y1.1] := by rw [hD]; rfl
      rw [hD1] at hg
      match cs, hcl with
      | [v0, v1, v2, v3], _ =>
        have g0 := hfld 0 _ rfl
        have g1 := hfld 1 _ rfl
        simp [Tryz.cellsKey, Tryz.cellsCell] at g0 g1
        have hg0 := light_agg Tryz.underlying82 hg (j := 0) (u := 66) (d := y0.1) rfl rfl
        have hg1 := light_agg Tryz.underlying82 hg (j := 1) (u := 80) (d := y1.1) rfl rfl
        obtain ⟨xs', k', _, hD', _, hxl', hfld'⟩ := DataW.trod_struct Tryz.underlying66 g0
        obtain ⟨xs2, k2, _, hD2, _, hxl2, hfld2⟩ := DataW.trod_struct Tryz.underlying80 g1
        rw [hD'] at hg0
        rw [hD2] at hg1
        match xs', hxl', xs2, hxl2 with
        | [z0, z1], _, [u0, u1], _ =>
          have g2 := hfld' 0 _ rfl
          have g3 := hfld' 1 _ rfl
          have g4 := hfld2 0 _ rfl
          have g5 := hfld2 1 _ rfl
          simp [Tryz.cells2, Tryz.cells9, Tryz.cellsLongs] at g2 g3 g4 g5
          obtain ⟨n0, e0, _, w0⟩ := DataW.trod_int Tryz.underlying2 g2
          have hg3 := light_agg Tryz.underlying66 hg0 (j := 1) (u := 9) (d := z1.1) rfl rfl
          obtain ⟨s3, e3, x3, _⟩ := DataW.trod_string Tryz.underlying9 g3
          rw [x3] at hg3
          have w3 := light_string hg3
          unfold reachBytes at w3
          obtain ⟨n1, e1, _, w1⟩ := DataW.trod_int Tryz.underlying2 g4
          have hg5 := light_agg Tryz.underlying80 hg1 (j := 1) (u := 78) (d := u1.1) rfl rfl
          obtain ⟨l, a, cap', e5, _, hll, hwl, hns⟩ := open_longs g5 hg5
          simp at e0 e3 e1
          subst e0 e3 e1 e5
          have a0 := hcell 0 (by omega)
          have a1 := hcell 1 (by omega)
          have a2 := hcell 2 (by omega)
          have a3 := hcell 3 (by omega)
          rw [add_add, add_plain] at a0 a1 a2 a3
          exact ⟨((n0, s3), (n1, l)), ⟨⟨i64_of_wf w0, w3⟩, ⟨i64_of_wf w1, hwl⟩, hll⟩, by simpa using a0, by simpa [Nat.add_assoc] using a1, by simpa [Nat.add_assoc] using a2, a, cap', by simpa [Nat.add_assoc] using a3, hns⟩
    let g : Nat → Rw := fun i => if h : i < len then (hone i h).choose else (k0, (0, []))
    have hg' : ∀ i (h : i < len), g i = (hone i h).choose := fun i h => by simp [g, h]
    refine ⟨(List.range len).map g, by simp; omega, ?_, ⟨_, cap, by simp, .inr ⟨b, off, rfl, hb, ?_⟩⟩, hl⟩
    · intro x hx
      obtain ⟨i, hi, rfl⟩ := List.mem_map.1 hx
      rw [List.mem_range] at hi
      rw [hg' i hi]
      exact (hone i hi).choose_spec.1
    · intro i x hx
      have hi : i < len := by have := (List.getElem?_eq_some_iff.1 hx).1; simpa using this
      simp [hi] at hx
      subst hx
      rw [hg' i hi]
      exact (hone i hi).choose_spec.2
theorem open_runs {H : Type} {enc : TypeId × Value → H} {W : World} {fuel : Nat} {v : Value} {d : DataW H × List MemPlace} (hf : DataW.trod enc Tryz.prog W 0 (fun _ => true) true fuel 22 [v] = some d) (hlg : Light Tryz.prog 22 d.1) :
    ∃ (L : List (List Rw)) (a : Option Addr) (cap : Nat), v = .slice a L.length cap ∧ (L.length ≤ cap ∧ cap ≤ 9223372036854775807) ∧ L.length ≤ 17592186043904 ∧ (∀ l ∈ L, l.length ≤ 17592186043904 ∧ WfRs l) ∧ LLS W (.slice a L.length cap) L := by
  rcases DataW.trod_slice Tryz.underlying22 hf with ⟨hcs, _⟩ | ⟨x, len, cap, elems, rest, n, hfu, hcs, hx, _, hl, hm, hel, hall, _, _⟩
  · simp at hcs
    subst hcs
    exact ⟨[], none, 0, rfl, by simp, Nat.zero_le _, fun x hx => by simp at hx, none, 0, rfl, .inl rfl⟩
  · simp at hcs
    subst hcs
    subst hx
    obtain ⟨hlg1, hlg2⟩ := light_slice Tryz.underlying22 hlg
    rw [Tryz.bytesRows] at hlg1
    simp only [List.length_map] at hlg1
    unfold reachBytes at hlg1
    by_cases h0 : len = 0
    · subst h0
      exact ⟨[], _, _, rfl, ⟨Nat.zero_le _, by unfold maxLen at hm; omega⟩, Nat.zero_le _, fun x hx => by simp at hx, _, _, rfl, .inl rfl⟩
    obtain ⟨b, off, spot⟩ := x
    rw [Tryz.cellsRows] at hall
    have hget : ∀ i, i < len → ∃ cs y, W.cells? 0 ((⟨b, off, spot⟩ : Addr).add (i * 1)) 1 = some cs ∧ DataW.trod enc Tryz.prog W 0 (fun _ => true) true n 37 cs = some y ∧ elems[i]? = some y := by
      intro i hi
      have := hall i hi
      obtain ⟨y, hy⟩ : ∃ y, elems[i]? = some y := ⟨_, List.getElem?_eq_getElem (by omega)⟩
      rw [hy] at this
      cases hc : W.cells? 0 ((⟨b, off, spot⟩ : Addr).add (i * 1)) 1 with
      | none => rw [hc] at this; simp at this
      | some cs => rw [hc] at this; exact ⟨cs, y, rfl, by simpa using this, hy⟩
    obtain ⟨cs, _, hc, _, _⟩ := hget 0 (by omega)
    obtain ⟨_, hcl, hcell⟩ := World.cells?_some hc
    have hspot : spot = none := by
      have e := hcell 0 (by omega)
      match cs, hcl with
      | [v0], _ => simpa [Addr.add] using World.cell?_spot e
    subst hspot
    have hb : b < W.heap.size := by simpa [add_plain] using World.cells?_block hc (by decide)
    have hone : ∀ i, i < len → ∃ y : List Rw, (y.length ≤ 17592186043904 ∧ WfRs y) ∧ ∃ u, W.cell? ⟨b, off + i, none⟩ = some u ∧ WS W u y ∧ CapOk u := by
      intro i hi
      obtain ⟨cs, y, hc, ht, hy⟩ := hget i hi
      obtain ⟨_, hcl, hcell⟩ := World.cells?_some hc
      have hg : Light Tryz.prog 37 y.1 := hlg2 _ (List.mem_map.2 ⟨y, List.mem_of_getElem? hy, rfl⟩)
      match cs, hcl with
      | [v0], _ =>
        obtain ⟨L, q1, q2, q3, q4⟩ := open_rows ht hg
        have a0 := hcell 0 (by omega)
        rw [add_add, add_plain] at a0
        exact ⟨L, ⟨q1, q2⟩, v0, by simpa using a0, q3, q4⟩
    let g : Nat → List Rw := fun i => if h : i < len then (hone i h).choose else []
    have hg' : ∀ i (h : i < len), g i = (hone i h).choose := fun i h => by simp [g, h]
    refine ⟨(List.range len).map g, some ⟨b, off, none⟩, cap, by simp, by simp; exact ⟨hl, by unfold maxLen at hm; omega⟩, by simp; omega, ?_, _, cap, rfl, .inr ⟨b, off, rfl, hb, ?_⟩⟩
    · intro x hx
      obtain ⟨i, hi, rfl⟩ := List.mem_map.1 hx
      rw [List.mem_range] at hi
      rw [hg' i hi]
      exact (hone i hi).choose_spec.1
    · intro i x hx
      have hi : i < len := by have := (List.getElem?_eq_some_iff.1 hx).1; simpa using this
      simp [hi] at hx
      subst hx
      rw [hg' i hi]
      exact (hone i hi).choose_spec.2
/-- What comes in. -/
structure In10 (W : World) (agg bound : Int) (vl vv : Value) (x : ByteArray) (L : List (List Rw)) (l : List Rc) : Prop where
  hagg : Num64 agg
  hbound : Num64 bound
  hL : LLS W vl L ∧ L.length ≤ 17592186043904 ∧ ∀ l ∈ L, l.length ≤ 17592186043904 ∧ WfRs l
  hLcap : ∃ a cap, vl = .slice a L.length cap ∧ L.length ≤ cap ∧ cap ≤ 9223372036854775807
  hl : RS W vv l ∧ l.length ≤ 4398046510976 ∧ Wf l
  hcap : ∃ a cap, vv = .slice a l.length cap ∧ l.length ≤ cap ∧ cap ≤ 9223372036854775807
  hx : x.size ≤ 140737488351232
theorem open_ask10 {H : Type} {enc : TypeId × Value → H} {W : World} {base : Nat} {v : Value} {d : DataW H} {p : List MemPlace} (hv : Value.okWide Tryz.prog W .any base 25 v) (h : DataW.Trod enc Tryz.prog W 0 (fun _ => true) true 25 v d p) (hlg : Light Tryz.prog 25 d) :
    ∃ agg bound vl vv x L l, v = .agg #[.int .i64 agg, .int .i64 bound, vl, vv, .string x] ∧ In10 W agg bound vl vv x L l := by
  obtain ⟨cs, rfl, hcs⟩ := okWide_struct Tryz.underlying25 hv
  rw [Tryz.cellsAsk10] at hcs
  obtain ⟨fuel, hf⟩ := h
  obtain ⟨xs, k, _, hD, _, hxl, hfld⟩ := DataW.trod_struct Tryz.underlying25 hf
  injection hD with hD _
  rw [hD] at hlg
  obtain ⟨cl⟩ := cs
  match cl, hcs, xs, hxl with
  | [v0, v1, v2, v3, v4], _, [y0, y1, y2, y3, y4], _ =>
    have g0 := hfld 0 _ rfl
    have g1 := hfld 1 _ rfl
    have g2 := hfld 2 _ rfl
    have g3 := hfld 3 _ rfl
    have g4 := hfld 4 _ rfl
    have hg2 := light_agg Tryz.underlying25 hlg (j := 2) (u := 22) (d := y2.1) rfl rfl
    have hg3 := light_agg Tryz.underlying25 hlg (j := 3) (u := 23) (d := y3.1) rfl rfl
    simp [Tryz.cells3, Tryz.cells9, Tryz.cellsRuns, Tryz.cellsRecs, Value.cells] at g0 g1 g2 g3 g4
    obtain ⟨n0, e0, _, w0⟩ := DataW.trod_int Tryz.underlying3 g0
    obtain ⟨n1, e1, _, w1⟩ := DataW.trod_int Tryz.underlying3 g1
    have hg4 := light_agg Tryz.underlying25 hlg (j := 4) (u := 9) (d := y4.1) rfl rfl
    obtain ⟨s4, e4, d4, w4⟩ := DataW.trod_string Tryz.underlying9 g4
    rw [d4] at hg4
    have w5 := light_string hg4
    unfold reachBytes at w5
    simp at e0 e1 e4
    subst e0 e1 e4
    obtain ⟨L, la, lc, el, lcap, q1, q2, q3⟩ := open_runs g2 hg2
    subst el
    obtain ⟨a, len, cap, rfl⟩ : ∃ a len cap, v3 = .slice a len cap := by
      rcases DataW.trod_slice Tryz.underlying23 g3 with ⟨hcs, _⟩ | ⟨x, len, cap, elems, rest, n, hfu, hcs, _⟩
      · simp at hcs
        exact ⟨_, _, _, hcs⟩
      · simp at hcs
        exact ⟨_, _, _, hcs⟩
    obtain ⟨l, hlen, hcap, r1, r2, r3⟩ := open_recs g3 hg3
    subst hlen
    exact ⟨_, _, _, _, _, L, l, rfl, ⟨i64_of_wf w0, i64_of_wf w1, ⟨q3, q1, q2⟩, ⟨la, lc, rfl, lcap⟩, ⟨r3, r1, r2⟩, ⟨a, cap, rfl, hcap⟩, w5⟩⟩
end Go.Proofs.YtaagllbcmgnbnaaGreatDoor
