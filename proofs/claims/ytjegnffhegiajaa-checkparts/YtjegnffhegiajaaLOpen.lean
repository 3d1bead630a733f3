/- The law's argument: texts and ops, opened. -/
import Derived.Test.YtjegnffhegiajaaSStr
import Derived.Test.YtjegnffhegiajaaLOps
import Derived.Test.YtjegnffhegiajaaLight
import Derived.ChangeArms
namespace Go.Proofs.Ytjegnffhegiajaa
open Go.ChangeShapes Go.WideShapes Go.ChangeAt Go.RowKit Go.Deep
set_option linter.unusedVariables false
set_option maxRecDepth 100000

theorem Try.cellsAsk : Try.prog.cellsOf 25 = 2 := by kernel_rfl
theorem Try.cellsOp : Try.prog.cellsOf 38 = 3 := by kernel_rfl
theorem Try.bytesOp : Try.prog.bytesOf 38 = 40 := by kernel_rfl
theorem Try.cells2 : Try.prog.cellsOf 2 = 1 := by kernel_rfl
theorem Try.cells3 : Try.prog.cellsOf 3 = 1 := by kernel_rfl
theorem Try.cellsOps : Try.prog.cellsOf 23 = 1 := by kernel_rfl
theorem Try.cellsStrs : Try.prog.cellsOf 22 = 1 := by kernel_rfl
theorem i64_of_wf {n : Int} (h : (Lit.int .i64 n).wf = true) : -9223372036854775808 ≤ n ∧ n ≤ 9223372036854775807 := by
  simpa [Lit.wf, IntKind.min, IntKind.max, IntKind.signed, IntKind.bits] using h
/-- Ops out of what stands at each place. -/
def mkFo (g : Nat → Int × Int × Fo) : Nat → Nat → Fo
  | _, 0 => .nil
  | i, n + 1 => .cons (g i).1 (g i).2.1 (g i).2.2 (mkFo g (i + 1) n)
theorem mkFo_len (g : Nat → Int × Int × Fo) : ∀ (n i : Nat), (mkFo g i n).len = n
  | 0, _ => rfl
  | n + 1, i => by simp [mkFo, Fo.len, mkFo_len g n (i + 1)]
/-- What is asked of the op at a place. -/
structure OpAt (W : World) (b o : Nat) (y : Int × Int × Fo) : Prop where
  k : -9223372036854775808 ≤ y.1 ∧ y.1 ≤ 9223372036854775807
  n : -9223372036854775808 ≤ y.2.1 ∧ y.2.1 ≤ 9223372036854775807
  c0 : W.cell? ⟨b, o, none⟩ = some (.int .i64 y.1)
  c1 : W.cell? ⟨b, o + 1, none⟩ = some (.int .i64 y.2.1)
  c2 : ∃ v, W.cell? ⟨b, o + 2, none⟩ = some v ∧ FS QA W v y.2.2
  len : y.2.2.len ≤ 3518437208780
  wb : WfB y.2.2
  wn : WfN y.2.2
theorem mkFo_at {W : World} {b off : Nat} (g : Nat → Int × Int × Fo) : ∀ (n i : Nat), (∀ j, j < n → OpAt W b (off + (i + j) * 3) (g (i + j))) → FoAt QA W (mkFo g i n) b (off + i * 3) ∧ WfB (mkFo g i n) ∧ WfN (mkFo g i n)
  | 0, i, _ => ⟨trivial, trivial, trivial⟩
  | n + 1, i, h => by
    have h0 := h 0 (by omega)
    rw [Nat.add_zero] at h0
    obtain ⟨r1, r2, r3⟩ := mkFo_at g n (i + 1) (fun j hj => by have := h (j + 1) (by omega); rw [show i + 1 + j = i + (j + 1) by omega]; exact this)
    obtain ⟨v, hv, a, cap, e, hb⟩ := h0.c2
    refine ⟨⟨h0.c0, h0.c1, ⟨a, cap, by rw [← e]; exact hv, hb⟩, ?_⟩, ⟨h0.len, h0.wb, r2⟩, ⟨h0.k, h0.n, h0.wn, r3⟩⟩
    rw [show off + i * 3 + 3 = off + (i + 1) * 3 by omega]
    exact r1

/-- A slice's room. -/
def Capd (v : Value) : Prop := ∃ a n c, v = .slice a n c ∧ n ≤ c ∧ c ≤ 9223372036854775807
/-- A slice of ops that came in. -/
theorem open_ops {H : Type} {enc : TypeId × Value → H} {W : World} : ∀ (fuel : Nat) (v : Value) (d : DataW H × List MemPlace), DataW.trod enc Try.prog W 0 (fun _ => true) true fuel 23 [v] = some d → Light Try.prog 23 d.1 →
    ∃ f : Fo, FS QA W v f ∧ f.len ≤ 3518437208780 ∧ WfB f ∧ WfN f ∧ Capd v := by
  intro fuel
  induction fuel using Nat.strongRecOn with
  | ind fuel ih =>
    intro v d hf hlg
    rcases DataW.trod_slice Try.underlying23 hf with ⟨hcs, _⟩ | ⟨x, len, cap, elems, rest, n, hfu, hcs, hx, _, hl, hm, hel, hall, _, _⟩
    · simp at hcs
      subst hcs
      exact ⟨.nil, FS.nil _, by simp [Fo.len], trivial, trivial, _, _, _, rfl, Nat.le_refl _, by omega⟩
    · simp at hcs
      subst hcs
      subst hx
      obtain ⟨hlg1, hlg2⟩ := light_slice Try.underlying23 hlg
      rw [Try.bytesOp] at hlg1
      simp only [List.length_map] at hlg1
      unfold reachBytes at hlg1
      by_cases h0 : len = 0
      · subst h0
        exact ⟨.nil, ⟨_, cap, rfl, .inl rfl⟩, by simp [Fo.len], trivial, trivial, _, _, _, rfl, hl, by unfold maxLen at hm; omega⟩
      obtain ⟨b, off, spot⟩ := x
      rw [Try.cellsOp] at hall
      have hget : ∀ i, i < len → ∃ cs y, W.cells? 0 ((⟨b, off, spot⟩ : Addr).add (i * 3)) 3 = some cs ∧ DataW.trod enc Try.prog W 0 (fun _ => true) true n 38 cs = some y ∧ elems[i]? = some y := by
        intro i hi
        have := hall i hi
        obtain ⟨y, hy⟩ : ∃ y, elems[i]? = some y := ⟨_, List.getElem?_eq_getElem (by omega)⟩
        rw [hy] at this
        cases hc : W.cells? 0 ((⟨b, off, spot⟩ : Addr).add (i * 3)) 3 with
        | none => rw [hc] at this; simp at this
        | some cs => rw [hc] at this; exact ⟨cs, y, rfl, by simpa using this, hy⟩
      obtain ⟨cs, _, hc, _, _⟩ := hget 0 (by omega)
      obtain ⟨_, hcl, hcell⟩ := World.cells?_some hc
      have hspot : spot = none := by
        have e := hcell 0 (by omega)
        match cs, hcl with
        | [v0, v1, v2], _ => simpa [Addr.add] using World.cell?_spot e
      subst hspot
      have hb : b < W.heap.size := by simpa [add_plain] using World.cells?_block hc (by decide)
      have hop : ∀ i, i < len → ∃ y : Int × Int × Fo, OpAt W b (off + i * 3) y := by
        intro i hi
        obtain ⟨cs, y, hc, ht, hy⟩ := hget i hi
        obtain ⟨_, hcl, hcell⟩ := World.cells?_some hc
        obtain ⟨xs, k, hk, hD, _, hxl, hfld⟩ := DataW.trod_struct Try.underlying38 ht
        obtain ⟨y0, y1, y2, rfl⟩ : ∃ y0 y1 y2, xs = [y0, y1, y2] := by
          match xs, hxl with
          | [y0, y1, y2], _ => exact ⟨y0, y1, y2, rfl⟩
        have hg : Light Try.prog 38 y.1 := hlg2 _ (List.mem_map.2 ⟨y, List.mem_of_getElem? hy, rfl⟩)
        have hD1 : y.1 = .agg [y0.1, y1.1, y2.1] := by rw [hD]; rfl
        rw [hD1] at hg
        match cs, hcl with
        | [v0, v1, v2], _ =>
          have g0 := hfld 0 _ rfl
          have g1 := hfld 1 _ rfl
          have g2 := hfld 2 _ rfl
          simp [Try.cells2, Try.cells3, Try.cellsOps] at g0 g1 g2
          have hg2 := light_agg Try.underlying38 hg (j := 2) (u := 23) (d := y2.1) rfl rfl
          obtain ⟨n0, e0, _, w0⟩ := DataW.trod_int Try.underlying3 g0
          obtain ⟨n1, e1, _, w1⟩ := DataW.trod_int Try.underlying2 g1
          obtain ⟨f2, hfs, hfl, hwb, hwn, _⟩ := ih k (by omega) v2 y2 g2 hg2
          simp at e0 e1
          subst e0 e1
          have a0 := hcell 0 (by omega)
          have a1 := hcell 1 (by omega)
          have a2 := hcell 2 (by omega)
          rw [add_add, add_plain] at a0 a1 a2
          exact ⟨(n0, n1, f2), i64_of_wf w0, i64_of_wf w1, by simpa using a0, by simpa [Nat.add_assoc] using a1, ⟨v2, by simpa [Nat.add_assoc] using a2, hfs⟩, hfl, hwb, hwn⟩
      let g : Nat → Int × Int × Fo := fun i => if h : i < len then (hop i h).choose else (0, 0, .nil)
      have hg' : ∀ i (h : i < len), g i = (hop i h).choose := fun i h => by simp [g, h]
      have hmk := mkFo_at (W := W) (b := b) (off := off) g len 0 (fun j hj => by rw [Nat.zero_add, hg' j hj]; exact (hop j hj).choose_spec)
      rw [Nat.zero_mul, Nat.add_zero] at hmk
      refine ⟨mkFo g 0 len, ⟨_, cap, by rw [mkFo_len], .inr ⟨b, off, rfl, hb, hmk.1⟩⟩, by rw [mkFo_len]; omega, hmk.2.1, hmk.2.2, _, _, _, rfl, hl, by unfold maxLen at hm; omega⟩

/-- The law's argument: texts, and ops. -/
theorem open_askc {H : Type} {enc : TypeId × Value → H} {W : World} {base : Nat} {v : Value} {d : DataW H} {p : List MemPlace} (hv : Value.okWide Try.prog W .any base 25 v) (h : DataW.Trod enc Try.prog W 0 (fun _ => true) true 25 v d p) (hlg : Light Try.prog 25 d) :
    ∃ vs vl l f, v = .agg #[vs, vl] ∧ (SS W vs l ∧ List.length l ≤ 8796093021952 ∧ WfS l) ∧ (FS QA W vl f ∧ f.len ≤ 3518437208780 ∧ WfB f ∧ WfN f) ∧ Capd vl := by
  obtain ⟨cs, rfl, hcs⟩ := okWide_struct Try.underlying25 hv
  rw [Try.cellsAsk] at hcs
  obtain ⟨fuel, hf⟩ := h
  obtain ⟨xs, k, _, hD, _, hxl, hfld⟩ := DataW.trod_struct Try.underlying25 hf
  injection hD with hD _
  rw [hD] at hlg
  obtain ⟨cl⟩ := cs
  match cl, hcs, xs, hxl with
  | [v0, v1], _, [y0, y1], _ =>
    have g0 := hfld 0 _ rfl
    have g1 := hfld 1 _ rfl
    have hg0 := light_agg Try.underlying25 hlg (j := 0) (u := 22) (d := y0.1) rfl rfl
    have hg1 := light_agg Try.underlying25 hlg (j := 1) (u := 23) (d := y1.1) rfl rfl
    simp [Try.cellsOps, Try.cellsStrs, Value.cells] at g0 g1
    obtain ⟨f, q1, q2, q3, q4, q5⟩ := open_ops k v1 y1 g1 hg1
    obtain ⟨a, len, cap, e0⟩ : ∃ a len cap, v0 = .slice a len cap := by
      rcases open_slice Try.underlying22 g0 with ⟨hcs, _⟩ | ⟨x, l, c, m, n, D, Pl, hcs, _⟩
      · simp at hcs; exact ⟨_, _, _, hcs⟩
      · simp at hcs; exact ⟨_, _, _, hcs⟩
    subst e0
    obtain ⟨l, _, h2, h3, h4⟩ := open_strl (enc := enc) (p := y0.2) (d := y0.1) ⟨k, by simpa [Value.cells] using g0⟩ hg0
    exact ⟨_, _, l, f, rfl, ⟨h4, h2, h3⟩, ⟨q1, q2, q3, q4⟩, q5⟩
theorem open_ask {H : Type} {enc : TypeId × Value → H} {W : World} {base : Nat} {v : Value} {d : DataW H} {p : List MemPlace} (hv : Value.okWide Try.prog W .any base 25 v) (h : DataW.Trod enc Try.prog W 0 (fun _ => true) true 25 v d p) (hlg : Light Try.prog 25 d) :
    ∃ vs vl l f, v = .agg #[vs, vl] ∧ (SS W vs l ∧ List.length l ≤ 8796093021952 ∧ WfS l) ∧ (FS QA W vl f ∧ f.len ≤ 3518437208780 ∧ WfB f ∧ WfN f) := by
  obtain ⟨vs, vl, l, f, h1, h2, h3, _⟩ := open_askc hv h hlg
  exact ⟨vs, vl, l, f, h1, h2, h3⟩
end Go.Proofs.Ytjegnffhegiajaa
