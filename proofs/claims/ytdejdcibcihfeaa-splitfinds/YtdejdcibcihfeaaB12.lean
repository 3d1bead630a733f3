/- A slice of records: what its cells hold; the law's argument opened. -/
import Derived.Test.YtdejdcibcihfeaaRows
import Derived.Test.YtdejdcibcihfeaaB7
import Derived.Test.YtdejdcibcihfeaaB10
import Derived.WalkKit
import Derived.ProofKit
import Derived.OpenShut
import Derived.ShutString
import Derived.ChangeOld
import Derived.Below
import Derived.Deep.Slices
import Derived.OwnWalk
import Derived.Test.YtdejdcibcihfeaaB11
namespace Go.Proofs.Ytdejdcibcihfeaa
open Go.ChangeShapes Go.WideShapes Go.ChangeAt Go.RowKit Go.Deep
open Go.ChangeMaps (open_string shut_string)
set_option linter.unusedVariables false
set_option maxRecDepth 100000

theorem own : ownKnob Try.prog.godebug = none := by kernel_rfl
theorem laidOut : laidOutB Try.prog = true := by kernel_rfl
theorem Try.cells2 : Try.prog.cellsOf 2 = 1 := by kernel_rfl
theorem Try.cells9 : Try.prog.cellsOf 9 = 1 := by kernel_rfl
theorem i64_of_wf {n : Int} (h : (Lit.int .i64 n).wf = true) : -9223372036854775808 ≤ n ∧ n ≤ 9223372036854775807 := by
  simpa [Lit.wf, IntKind.min, IntKind.max, IntKind.signed, IntKind.bits] using h

theorem Wr.ok {x : Rc} (h : Wr x) (ht : x.1.2.size ≤ 64) : Okr x := ⟨ht, h.k1, h.k2, h.v1, h.v2⟩
/-- A slice of records that came in. -/
theorem open_recs {H : Type} {enc : TypeId × Value → H} {W : World} {fuel : Nat} {a : Option Addr} {len cap : Nat} {d : DataW H × List MemPlace} (hf : DataW.trod enc Try.prog W 0 (fun _ => true) true fuel 44 [.slice a len cap] = some d) (hlg : Light Try.prog 44 d.1) :
    ∃ l : List Rc, l.length = len ∧ l.length ≤ 4398046510976 ∧ Wf l ∧ RS W (.slice a len cap) l := by
  rcases open_slice Try.underlying44 hf with ⟨hcs, _⟩ | ⟨x, l, c, m, n, D, Pl, hcs, _, hl, hm, hmm, hx, hel⟩
  · simp at hcs
    obtain ⟨rfl, rfl, rfl⟩ := hcs
    exact ⟨[], rfl, Nat.zero_le _, fun x hx => by simp at hx, none, 0, rfl, .inl rfl⟩
  · simp at hcs
    obtain ⟨rfl, rfl, rfl⟩ := hcs
    simp at hmm
    subst hmm
    subst hx
    obtain ⟨hlg1, hlg2⟩ := light_slice Try.underlying44 hlg
    rw [Try.bytesRec] at hlg1
    simp only [List.length_map, List.length_range] at hlg1
    unfold reachBytes at hlg1
    have hlg3 : ∀ i, i < len → Light Try.prog 62 (D i) := fun i hi => hlg2 _ (List.mem_map.2 ⟨i, List.mem_range.2 hi, rfl⟩)
    clear hlg2
    by_cases h0 : len = 0
    · subst h0
      exact ⟨[], rfl, Nat.zero_le _, fun x hx => by simp at hx, _, _, rfl, .inl rfl⟩
    obtain ⟨b, off, spot⟩ := x
    rw [Try.cellsRec] at hel
    have first := hel 0 (by omega)
    obtain ⟨cs, hc, _⟩ := first
    obtain ⟨_, hcl, hcell⟩ := World.cells?_some hc
    have hspot : spot = none := by
      have e := hcell 0 (by omega)
      match cs, hcl with
      | [v0, v1, v2], _ => simpa [Addr.add] using World.cell?_spot e
    subst hspot
    have hb : b < W.heap.size := by simpa [add_plain] using World.cells?_block hc (by decide)
    have hall : ∀ i, i < len → ∃ y : Rc, Wr y ∧ W.cell? ⟨b, off + i * 3, none⟩ = some (.int .i64 y.1.1) ∧ W.cell? ⟨b, off + i * 3 + 1, none⟩ = some (.string y.1.2) ∧ W.cell? ⟨b, off + i * 3 + 2, none⟩ = some (.int .i64 y.2) := by
      intro i hi
      obtain ⟨cs, hc, ht⟩ := hel i (by omega)
      obtain ⟨_, hcl, hcell⟩ := World.cells?_some hc
      obtain ⟨xs, k, hk, hD, _, hxl, hfld⟩ := DataW.trod_struct Try.underlying62 ht
      have hg := hlg3 i hi
      injection hD with hD _
      rw [hD] at hg
      match cs, hcl, xs, hxl with
      | [v0, v1, v2], _, [y0, y1], _ =>
        have g0 := hfld 0 _ rfl
        have g1 := hfld 1 _ rfl
        simp [Try.cells2, Try.cellsKey] at g0 g1
        have hg0 := light_agg Try.underlying62 hg (j := 0) (u := 60) (d := y0.1) rfl rfl
        obtain ⟨xs', k', _, hD', _, hxl', hfld'⟩ := DataW.trod_struct Try.underlying60 g0
        rw [hD'] at hg0
        match xs', hxl' with
        | [z0, z1], _ =>
          have g2 := hfld' 0 _ rfl
          have g3 := hfld' 1 _ rfl
          simp [Try.cells2, Try.cells9] at g2 g3
          obtain ⟨n0, e0, _, w0⟩ := DataW.trod_int Try.underlying2 g2
          have hg1 := light_agg Try.underlying60 hg0 (j := 1) (u := 9) (d := z1.1) rfl rfl
          obtain ⟨s3, e3, x3, _⟩ := DataW.trod_string Try.underlying9 g3
          rw [x3] at hg1
          have w3 := light_string hg1
          unfold reachBytes at w3
          obtain ⟨n1, e1, _, w1⟩ := DataW.trod_int Try.underlying2 g1
          simp at e0 e3 e1
          subst e0 e3 e1
          have a0 := hcell 0 (by omega)
          have a1 := hcell 1 (by omega)
          have a2 := hcell 2 (by omega)
          rw [add_add, add_plain] at a0 a1 a2
          exact ⟨((n0, s3), n1), ⟨(i64_of_wf w0).1, (i64_of_wf w0).2, w3, (i64_of_wf w1).1, (i64_of_wf w1).2⟩, by simpa using a0, by simpa [Nat.add_assoc] using a1, by simpa [Nat.add_assoc] using a2⟩
    let f : Nat → Rc := fun i => if h : i < len then (hall i h).choose else r0
    have hf' : ∀ i (h : i < len), f i = (hall i h).choose := fun i h => by simp [f, h]
    refine ⟨(List.range len).map f, by simp, by simp; omega, ?_, _, m, by simp, .inr ⟨b, off, rfl, hb, ?_⟩⟩
    · intro x hx
      obtain ⟨i, hi, rfl⟩ := List.mem_map.1 hx
      rw [List.mem_range] at hi
      rw [hf' i hi]
      exact (hall i hi).choose_spec.1
    · intro i x hx
      have hi : i < len := by have := (List.getElem?_eq_some_iff.1 hx).1; simpa using this
      simp [hi] at hx
      subst hx
      rw [hf' i hi]
      exact (hall i hi).choose_spec.2
end Go.Proofs.Ytdejdcibcihfeaa
