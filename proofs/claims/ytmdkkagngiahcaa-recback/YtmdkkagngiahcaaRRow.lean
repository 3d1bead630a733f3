/- A slice of records: what its cells hold; the law's argument opened. -/
import Derived.Test.YtmdkkagngiahcaaRows
import Derived.Test.YtmdkkagngiahcaaRPlain
import Derived.Test.YtmdkkagngiahcaaLight
import Derived.WalkKit
import Derived.ProofKit
import Derived.OpenShut
import Derived.ShutString
import Derived.ChangeOld
import Derived.Below
import Derived.Deep.Slices
import Derived.OwnWalk
namespace Go.Proofs.Ytmdkkagngiahcaa
open Go.ChangeShapes Go.WideShapes Go.ChangeAt Go.RowKit Go.Deep
open Go.ChangeMaps (open_string shut_string)
set_option linter.unusedVariables false

theorem own : ownKnob Try.prog.godebug = none := by kernel_rfl
theorem laidOut : laidOutB Try.prog = true := by kernel_rfl
theorem Try.cellsAsk : Try.prog.cellsOf 24 = 2 := by kernel_rfl
theorem Try.cellsRec : Try.prog.cellsOf 32 = 3 := by kernel_rfl
theorem Try.cellsKey : Try.prog.cellsOf 30 = 2 := by kernel_rfl
theorem Try.cells2 : Try.prog.cellsOf 2 = 1 := by kernel_rfl
theorem Try.cells9 : Try.prog.cellsOf 9 = 1 := by kernel_rfl
theorem Try.bytesRec : Try.prog.bytesOf 32 = 32 := by kernel_rfl
theorem Try.cellsRecs : Try.prog.cellsOf 22 = 1 := by kernel_rfl

/-- Numbers that an int64 holds, a text that may be. -/
structure Wr (x : Rc) : Prop where
  k1 : -9223372036854775808 ≤ x.1.1
  k2 : x.1.1 ≤ 9223372036854775807
  txt : x.1.2.size ≤ 140737488351232
  v1 : -9223372036854775808 ≤ x.2
  v2 : x.2 ≤ 9223372036854775807
theorem Wr.ok {x : Rc} (h : Wr x) (ht : x.1.2.size ≤ 64) : Okr x := ⟨ht, h.k1, h.k2, h.v1, h.v2⟩
def Wf (l : List Rc) : Prop := ∀ x ∈ l, Wr x

/-- From (b, off) on the records of l lie, one behind the other. -/
def RecsAt (w : World) (b off : Nat) (l : List Rc) : Prop :=
  ∀ i x, l[i]? = some x → w.cell? ⟨b, off + i * 3, none⟩ = some (.int .i64 x.1.1) ∧ w.cell? ⟨b, off + i * 3 + 1, none⟩ = some (.string x.1.2) ∧ w.cell? ⟨b, off + i * 3 + 2, none⟩ = some (.int .i64 x.2)

/-- The slice v holds the records l. -/
def RS (w : World) (v : Value) (l : List Rc) : Prop :=
  ∃ a cap, v = .slice a l.length cap ∧ (l = [] ∨ ∃ b off, a = some ⟨b, off, none⟩ ∧ b < w.heap.size ∧ RecsAt w b off l)

theorem RecsAt.below {w w' : World} {b off B : Nat} {l : List Rc} (h : RecsAt w b off l) (hb : Below B w w') (hlt : b < B) : RecsAt w' b off l := fun i x hx =>
  ⟨(hb.cell (p := ⟨b, off + i * 3, none⟩) hlt).trans (h i x hx).1, (hb.cell (p := ⟨b, off + i * 3 + 1, none⟩) hlt).trans (h i x hx).2.1, (hb.cell (p := ⟨b, off + i * 3 + 2, none⟩) hlt).trans (h i x hx).2.2⟩
theorem RS.below {w w' : World} {v : Value} {l : List Rc} (h : RS w v l) (hb : Below w.heap.size w w') : RS w' v l := by
  obtain ⟨a, cap, rfl, h⟩ := h
  refine ⟨a, cap, rfl, ?_⟩
  rcases h with h | ⟨b, off, rfl, hlt, h⟩
  · exact .inl h
  · exact .inr ⟨b, off, rfl, Nat.lt_of_lt_of_le hlt hb.size, h.below hb hlt⟩
theorem RS.at {w : World} {b off n cap : Nat} {l : List Rc} (h : RS w (.slice (some ⟨b, off, none⟩) n cap) l) : RecsAt w b off l := by
  obtain ⟨a, cap', e, h⟩ := h
  rcases h with rfl | ⟨b', off', rfl, _, hat⟩
  · intro i y hy; simp at hy
  · injection e with e1 e2 e3
    injection e1 with e1
    injection e1 with e1 e4
    subst e1 e4
    exact hat
theorem RS.shape {w : World} {v : Value} {l : List Rc} (h : RS w v l) : (∃ a cap, v = .slice a 0 cap ∧ l = []) ∨ ∃ b off cap, v = .slice (some ⟨b, off, none⟩) l.length cap ∧ b < w.heap.size ∧ RecsAt w b off l := by
  obtain ⟨a, cap, rfl, h⟩ := h
  rcases h with rfl | ⟨b, off, rfl, hb, hat⟩
  · exact .inl ⟨a, cap, rfl, rfl⟩
  · exact .inr ⟨b, off, cap, rfl, hb, hat⟩

/-- The cells of records, one behind the other. -/
abbrev flatR (l : List Rc) : List Value := l.flatMap encR
theorem flat_len (l : List Rc) : (flatR l).length = l.length * 3 := by
  induction l with
  | nil => rfl
  | cons a l ih => simp [flatR, encR] at ih ⊢; omega
theorem flat_get : ∀ (l : List Rc) (i : Nat) (x : Rc), l[i]? = some x → (flatR l)[i * 3]? = some (.int .i64 x.1.1) ∧ (flatR l)[i * 3 + 1]? = some (.string x.1.2) ∧ (flatR l)[i * 3 + 2]? = some (.int .i64 x.2)
  | [], i, x, h => by simp at h
  | a :: l, 0, x, h => by simp at h; subst h; simp [flatR, encR]
  | a :: l, i + 1, x, h => by
    simp at h
    have := flat_get l i x h
    simp only [flatR, List.flatMap_cons, encR] at this ⊢
    have e : (i + 1) * 3 = i * 3 + 1 + 1 + 1 := by omega
    rw [e]
    simpa using this
theorem flat_app (l m : List Rc) : flatR (l ++ m) = flatR l ++ flatR m := by simp [flatR]
theorem flat_one (x : Rc) : flatR [x] = [.int .i64 x.1.1, .string x.1.2, .int .i64 x.2] := rfl
theorem recsAt_of_block {w : World} {g : Nat} {cur : Array Value} {e : TypeId} {l : List Rc} (hb : w.heap[g]? = some (.cells cur e (0, 0))) (ht : cur.toList.take (l.length * 3) = flatR l) : RecsAt w g 0 l := by
  intro i x hx
  have hi : i < l.length := (List.getElem?_eq_some_iff.1 hx).1
  obtain ⟨h0, h1, h2⟩ := flat_get l i x hx
  rw [← ht, List.getElem?_take_of_lt (by omega)] at h0 h1 h2
  refine ⟨?_, ?_, ?_⟩
  · simp only [World.cell?, hb, Nat.zero_add]
    simpa using h0
  · simp only [World.cell?, hb, Nat.zero_add]
    simpa using h1
  · simp only [World.cell?, hb, Nat.zero_add]
    simpa using h2
/-- v owns the records l, in a block from base on. -/
abbrev OwnR (w : World) (base : Nat) (v : Value) (l : List Rc) : Prop := w.ownsRow base 32 3 v l.length (flatR l)
/-- A slice of the call's own holds what it owns. -/
theorem RS.own {w : World} {base : Nat} {v : Value} {l : List Rc} (h : OwnR w base v l) : RS w v l := by
  rcases h.2 with ⟨rfl, h0⟩ | ⟨g, cap, cur, rfl, _, hb, _, _, _, ht⟩
  · have : l = [] := List.length_eq_zero_iff.1 h0
    subst this
    exact ⟨none, 0, rfl, .inl rfl⟩
  · exact ⟨_, cap, rfl, .inr ⟨g, 0, rfl, (Array.getElem?_eq_some_iff.1 hb).1, recsAt_of_block hb ht⟩⟩
theorem OwnR.below {w w' : World} {base : Nat} {v : Value} {l : List Rc} (h : OwnR w base v l) (hb : Below w.heap.size w w') : OwnR w' base v l := by
  refine ⟨h.1, ?_⟩
  rcases h.2 with ⟨h1, h2⟩ | ⟨g, cap, cur, h1, h2, h3, h4⟩
  · exact .inl ⟨h1, h2⟩
  · exact .inr ⟨g, cap, cur, h1, h2, by rw [hb.block g (Array.getElem?_eq_some_iff.1 h3).1]; exact h3, h4⟩
theorem OwnR.snoc {w : World} {base n : Nat} {v : Value} {l : List Rc} {x : Rc} (h : w.ownsRow base 32 3 v (n + 1) (flatR l ++ [.int .i64 x.1.1, .string x.1.2, .int .i64 x.2])) (hn : n = l.length) : OwnR w base v (l ++ [x]) := by
  subst hn
  have : flatR (l ++ [x]) = flatR l ++ [.int .i64 x.1.1, .string x.1.2, .int .i64 x.2] := by rw [flat_app, flat_one]
  unfold OwnR
  rw [this, List.length_append]
  exact h

theorem i64_of_wf {n : Int} (h : (Lit.int .i64 n).wf = true) : -9223372036854775808 ≤ n ∧ n ≤ 9223372036854775807 := by
  simpa [Lit.wf, IntKind.min, IntKind.max, IntKind.signed, IntKind.bits] using h

/-- A slice of records that came in. -/
theorem open_recs {H : Type} {enc : TypeId × Value → H} {W : World} {fuel : Nat} {a : Option Addr} {len cap : Nat} {d : DataW H × List MemPlace} (hf : DataW.trod enc Try.prog W 0 (fun _ => true) true fuel 22 [.slice a len cap] = some d) (hlg : Light Try.prog 22 d.1) :
    ∃ l : List Rc, l.length = len ∧ l.length ≤ 4398046510976 ∧ Wf l ∧ RS W (.slice a len cap) l := by
  rcases open_slice Try.underlying22 hf with ⟨hcs, _⟩ | ⟨x, l, c, m, n, D, Pl, hcs, _, hl, hm, hmm, hx, hel⟩
  · simp at hcs
    obtain ⟨rfl, rfl, rfl⟩ := hcs
    exact ⟨[], rfl, Nat.zero_le _, fun x hx => by simp at hx, none, 0, rfl, .inl rfl⟩
  · simp at hcs
    obtain ⟨rfl, rfl, rfl⟩ := hcs
    simp at hmm
    subst hmm
    subst hx
    obtain ⟨hlg1, hlg2⟩ := light_slice Try.underlying22 hlg
    rw [Try.bytesRec] at hlg1
    simp only [List.length_map, List.length_range] at hlg1
    unfold reachBytes at hlg1
    have hlg3 : ∀ i, i < len → Light Try.prog 32 (D i) := fun i hi => hlg2 _ (List.mem_map.2 ⟨i, List.mem_range.2 hi, rfl⟩)
    clear hlg2
    by_cases h0 : len = 0
    · subst h0
      exact ⟨[], rfl, Nat.zero_le _, fun x hx => by simp at hx, _, _, rfl, .inl rfl⟩
    obtain ⟨b, off, spot⟩ := x
    rw [Try.cellsRec] at hel
    have first := hel 0 (by omega)
    obtain ⟨cs, hc, _⟩ := first
    obtain ⟨_, hcl, hcell⟩ := World.cells?_some hc
    have hspot : spot = none := by
      have e := hcell 0 (by omega)
      match cs, hcl with
      | [v0, v1, v2], _ => simpa [Addr.add] using World.cell?_spot e
    subst hspot
    have hb : b < W.heap.size := by simpa [add_plain] using World.cells?_block hc (by decide)
    have hall : ∀ i, i < len → ∃ y : Rc, Wr y ∧ W.cell? ⟨b, off + i * 3, none⟩ = some (.int .i64 y.1.1) ∧ W.cell? ⟨b, off + i * 3 + 1, none⟩ = some (.string y.1.2) ∧ W.cell? ⟨b, off + i * 3 + 2, none⟩ = some (.int .i64 y.2) := by
      intro i hi
      obtain ⟨cs, hc, ht⟩ := hel i (by omega)
      obtain ⟨_, hcl, hcell⟩ := World.cells?_some hc
      obtain ⟨xs, k, hk, hD, _, hxl, hfld⟩ := DataW.trod_struct Try.underlying32 ht
      have hg := hlg3 i hi
      injection hD with hD _
      rw [hD] at hg
      match cs, hcl, xs, hxl with
      | [v0, v1, v2], _, [y0, y1], _ =>
        have g0 := hfld 0 _ rfl
        have g1 := hfld 1 _ rfl
        simp [Try.cells2, Try.cellsKey] at g0 g1
        have hg0 := light_agg Try.underlying32 hg (j := 0) (u := 30) (d := y0.1) rfl rfl
        obtain ⟨xs', k', _, hD', _, hxl', hfld'⟩ := DataW.trod_struct Try.underlying30 g0
        rw [hD'] at hg0
        match xs', hxl' with
        | [z0, z1], _ =>
          have g2 := hfld' 0 _ rfl
          have g3 := hfld' 1 _ rfl
          simp [Try.cells2, Try.cells9] at g2 g3
          obtain ⟨n0, e0, _, w0⟩ := DataW.trod_int Try.underlying2 g2
          have hg1 := light_agg Try.underlying30 hg0 (j := 1) (u := 9) (d := z1.1) rfl rfl
          obtain ⟨s3, e3, x3, _⟩ := DataW.trod_string Try.underlying9 g3
          rw [x3] at hg1
          have w3 := light_string hg1
          unfold reachBytes at w3
          obtain ⟨n1, e1, _, w1⟩ := DataW.trod_int Try.underlying2 g1
          simp at e0 e3 e1
          subst e0 e3 e1
          have a0 := hcell 0 (by omega)
          have a1 := hcell 1 (by omega)
          have a2 := hcell 2 (by omega)
          rw [add_add, add_plain] at a0 a1 a2
          exact ⟨((n0, s3), n1), ⟨(i64_of_wf w0).1, (i64_of_wf w0).2, w3, (i64_of_wf w1).1, (i64_of_wf w1).2⟩, by simpa using a0, by simpa [Nat.add_assoc] using a1, by simpa [Nat.add_assoc] using a2⟩
    let f : Nat → Rc := fun i => if h : i < len then (hall i h).choose else r0
    have hf' : ∀ i (h : i < len), f i = (hall i h).choose := fun i h => by simp [f, h]
    refine ⟨(List.range len).map f, by simp, by simp; omega, ?_, _, m, by simp, .inr ⟨b, off, rfl, hb, ?_⟩⟩
    · intro x hx
      obtain ⟨i, hi, rfl⟩ := List.mem_map.1 hx
      rw [List.mem_range] at hi
      rw [hf' i hi]
      exact (hall i hi).choose_spec.1
    · intro i x hx
      have hi : i < len := by have := (List.getElem?_eq_some_iff.1 hx).1; simpa using this
      simp [hi] at hx
      subst hx
      rw [hf' i hi]
      exact (hall i hi).choose_spec.2

/-- The law's argument: records, and bytes. -/
theorem open_ask {H : Type} {enc : TypeId × Value → H} {W : World} {base : Nat} {v : Value} {d : DataW H} {p : List MemPlace} (hv : Value.okWide Try.prog W .any base 24 v) (h : DataW.Trod enc Try.prog W 0 (fun _ => true) true 24 v d p) (hlg : Light Try.prog 24 d) :
    ∃ vl x l, v = .agg #[vl, .string x] ∧ x.size ≤ maxLen ∧ List.length l ≤ 4398046510976 ∧ Wf l ∧ RS W vl l := by
  obtain ⟨cs, rfl, hcs⟩ := okWide_struct Try.underlying24 hv
  rw [Try.cellsAsk] at hcs
  obtain ⟨fuel, hf⟩ := h
  obtain ⟨xs, k, _, hD, _, hxl, hfld⟩ := DataW.trod_struct Try.underlying24 hf
  injection hD with hD _
  rw [hD] at hlg
  obtain ⟨cl⟩ := cs
  match cl, hcs, xs, hxl with
  | [v0, v1], _, [y0, y1], _ =>
    have g0 := hfld 0 _ rfl
    have g1 := hfld 1 _ rfl
    have hg0 := light_agg Try.underlying24 hlg (j := 0) (u := 22) (d := y0.1) rfl rfl
    simp [Try.cellsRecs, Try.cells9, Value.cells] at g0 g1
    obtain ⟨s3, e3, _, w3⟩ := DataW.trod_string Try.underlying9 g1
    simp at e3
    subst e3
    obtain ⟨a, len, cap, e0⟩ : ∃ a len cap, v0 = .slice a len cap := by
      rcases open_slice Try.underlying22 g0 with ⟨hcs, _⟩ | ⟨x, l, c, m, n, D, Pl, hcs, _⟩
      · simp at hcs; exact ⟨_, _, _, hcs⟩
      · simp at hcs; exact ⟨_, _, _, hcs⟩
    subst e0
    obtain ⟨l, h1, h2, h3, h4⟩ := open_recs g0 hg0
    exact ⟨_, s3, l, rfl, w3, h2, h3, h4⟩
end Go.Proofs.Ytmdkkagngiahcaa
