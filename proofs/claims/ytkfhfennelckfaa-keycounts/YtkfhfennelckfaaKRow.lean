/- A slice of keys: what its cells hold; the law's argument opened. -/
import Derived.Test.YtkfhfennelckfaaRows
import Derived.Test.YtkfhfennelckfaaKPlain
import Derived.WalkKit
import Derived.ProofKit
import Derived.OpenShut
import Derived.ShutString
import Derived.ChangeOld
import Derived.Below
import Derived.Deep.Slices
import Derived.OwnWalk
namespace Go.Proofs.Ytkfhfennelckfaa
open Go.ChangeShapes Go.WideShapes Go.ChangeAt Go.RowKit Go.Deep
open Go.ChangeMaps (open_string shut_string)
set_option linter.unusedVariables false

theorem own : ownKnob Try.prog.godebug = none := by kernel_rfl
theorem laidOut : laidOutB Try.prog = true := by kernel_rfl
theorem Try.cellsAsk : Try.prog.cellsOf 24 = 2 := by kernel_rfl
theorem Try.cellsKey : Try.prog.cellsOf 30 = 2 := by kernel_rfl
theorem Try.cells2 : Try.prog.cellsOf 2 = 1 := by kernel_rfl
theorem Try.cells9 : Try.prog.cellsOf 9 = 1 := by kernel_rfl
theorem Try.cellsKeys : Try.prog.cellsOf 22 = 1 := by kernel_rfl

/-- Numbers that an int64 holds, texts that may be. -/
def Wf (l : List Ky) : Prop := ∀ x ∈ l, (-9223372036854775808 ≤ x.1 ∧ x.1 ≤ 9223372036854775807) ∧ x.2.size ≤ maxLen

/-- From (b, off) on the keys of l lie, one behind the other. -/
def KeysAt (w : World) (b off : Nat) (l : List Ky) : Prop := ∀ i x, l[i]? = some x → w.cell? ⟨b, off + i * 2, none⟩ = some (.int .i64 x.1) ∧ w.cell? ⟨b, off + i * 2 + 1, none⟩ = some (.string x.2)

/-- The slice v holds the keys l. -/
def KS (w : World) (v : Value) (l : List Ky) : Prop :=
  ∃ a cap, v = .slice a l.length cap ∧ (l = [] ∨ ∃ b off, a = some ⟨b, off, none⟩ ∧ b < w.heap.size ∧ KeysAt w b off l)

theorem KeysAt.below {w w' : World} {b off B : Nat} {l : List Ky} (h : KeysAt w b off l) (hb : Below B w w') (hlt : b < B) : KeysAt w' b off l := fun i x hx =>
  ⟨(hb.cell (p := ⟨b, off + i * 2, none⟩) hlt).trans (h i x hx).1, (hb.cell (p := ⟨b, off + i * 2 + 1, none⟩) hlt).trans (h i x hx).2⟩
theorem KS.below {w w' : World} {v : Value} {l : List Ky} (h : KS w v l) (hb : Below w.heap.size w w') : KS w' v l := by
  obtain ⟨a, cap, rfl, h⟩ := h
  refine ⟨a, cap, rfl, ?_⟩
  rcases h with h | ⟨b, off, rfl, hlt, h⟩
  · exact .inl h
  · exact .inr ⟨b, off, rfl, Nat.lt_of_lt_of_le hlt hb.size, h.below hb hlt⟩

/-- The cells of keys, one behind the other. -/
abbrev flatK' (l : List Ky) : List Value := l.flatMap encK
theorem flat_len (l : List Ky) : (flatK' l).length = l.length * 2 := by
  induction l with
  | nil => rfl
  | cons a l ih => simp [flatK', encK] at ih ⊢; omega
theorem flat_get : ∀ (l : List Ky) (i : Nat) (x : Ky), l[i]? = some x → (flatK' l)[i * 2]? = some (.int .i64 x.1) ∧ (flatK' l)[i * 2 + 1]? = some (.string x.2)
  | [], i, x, h => by simp at h
  | a :: l, 0, x, h => by simp at h; subst h; simp [flatK', encK]
  | a :: l, i + 1, x, h => by
    simp at h
    have := flat_get l i x h
    simp only [flatK', List.flatMap_cons, encK] at this ⊢
    have e : (i + 1) * 2 = i * 2 + 1 + 1 := by omega
    rw [e]
    simpa using this
theorem flat_app (l m : List Ky) : flatK' (l ++ m) = flatK' l ++ flatK' m := by simp [flatK']
theorem flat_one (x : Ky) : flatK' [x] = [.int .i64 x.1, .string x.2] := rfl
theorem flat_cell (l : List Ky) : ∀ u ∈ flatK' l, u.oneCell' = true := by
  intro u hu
  simp only [flatK', List.mem_flatMap] at hu
  obtain ⟨x, _, hx⟩ := hu
  simp only [encK, List.mem_cons, List.not_mem_nil, or_false] at hx
  rcases hx with rfl | rfl <;> rfl
theorem flat_inv : ∀ (l : List Ky) (j : Nat) (u : Value), (flatK' l)[j]? = some u → ∃ i x, l[i]? = some x ∧ (j = i * 2 ∧ u = .int .i64 x.1 ∨ j = i * 2 + 1 ∧ u = .string x.2)
  | [], j, u, h => by simp [flatK'] at h
  | a :: l, 0, u, h => by simp [flatK', encK] at h; exact ⟨0, a, rfl, .inl ⟨rfl, h.symm⟩⟩
  | a :: l, 1, u, h => by simp [flatK', encK] at h; exact ⟨0, a, rfl, .inr ⟨rfl, h.symm⟩⟩
  | a :: l, j + 2, u, h => by
    simp only [flatK', List.flatMap_cons, encK] at h
    obtain ⟨i, x, hx, h'⟩ := flat_inv l j u (by simpa [flatK'] using h)
    refine ⟨i + 1, x, by simpa using hx, ?_⟩
    rcases h' with ⟨rfl, rfl⟩ | ⟨rfl, rfl⟩
    · exact .inl ⟨by omega, rfl⟩
    · exact .inr ⟨by omega, rfl⟩
/-- What append asks of the cells that it takes over. -/
theorem KeysAt.news {w : World} {b off : Nat} {l : List Ky} (h : KeysAt w b off l) : ∀ j u, (flatK' l)[j]? = some u → w.cell? ((⟨b, off, none⟩ : Addr).add j) = some u := by
  intro j u hj
  obtain ⟨i, x, hx, h'⟩ := flat_inv l j u hj
  have := h i x hx
  rcases h' with ⟨rfl, rfl⟩ | ⟨rfl, rfl⟩
  · rw [Addr.add_lit]; exact this.1
  · rw [Addr.add_lit]; simpa [Nat.add_assoc] using this.2
theorem keysAt_of_block {w : World} {g : Nat} {cur : Array Value} {e : TypeId} {l : List Ky} (hb : w.heap[g]? = some (.cells cur e (0, 0))) (ht : cur.toList.take (l.length * 2) = flatK' l) : KeysAt w g 0 l := by
  intro i x hx
  have hi : i < l.length := (List.getElem?_eq_some_iff.1 hx).1
  obtain ⟨h0, h1⟩ := flat_get l i x hx
  rw [← ht, List.getElem?_take_of_lt (by omega)] at h0 h1
  constructor
  · simp only [World.cell?, hb, Nat.zero_add]
    simpa using h0
  · simp only [World.cell?, hb, Nat.zero_add]
    simpa using h1
/-- A slice of the call's own holds what it owns. -/
theorem KS.own {w : World} {base n : Nat} {e : TypeId} {v : Value} {l : List Ky} (h : w.ownsRow base e 2 v n (flatK' l)) : KS w v l := by
  have hl := h.1
  rw [flat_len] at hl
  have hn : n = l.length := by omega
  subst hn
  rcases h.2 with ⟨rfl, h0⟩ | ⟨g, cap, cur, rfl, _, hb, _, _, _, ht⟩
  · have : l = [] := List.length_eq_zero_iff.1 h0
    subst this
    exact ⟨none, 0, rfl, .inl rfl⟩
  · exact ⟨_, cap, rfl, .inr ⟨g, 0, rfl, (Array.getElem?_eq_some_iff.1 hb).1, keysAt_of_block hb ht⟩⟩
theorem KS.len {w : World} {a : Option Addr} {n cap : Nat} {l : List Ky} (h : KS w (.slice a n cap) l) : n = l.length := by
  obtain ⟨_, _, e, _⟩ := h; injection e

theorem i64_of_wf {n : Int} (h : (Lit.int .i64 n).wf = true) : -9223372036854775808 ≤ n ∧ n ≤ 9223372036854775807 := by
  simpa [Lit.wf, IntKind.min, IntKind.max, IntKind.signed, IntKind.bits] using h

/-- A slice of keys that came in. -/
theorem open_keys {H : Type} {enc : TypeId × Value → H} {W : World} {fuel : Nat} {a : Option Addr} {len cap : Nat} {d : DataW H × List MemPlace} (hf : DataW.trod enc Try.prog W 0 (fun _ => true) true fuel 22 [.slice a len cap] = some d) :
    ∃ l : List Ky, l.length = len ∧ l.length ≤ maxLen ∧ Wf l ∧ KS W (.slice a len cap) l := by
  rcases open_slice Try.underlying22 hf with ⟨hcs, _⟩ | ⟨x, l, c, m, n, D, Pl, hcs, _, hl, hm, hmm, hx, hel⟩
  · simp at hcs
    obtain ⟨rfl, rfl, rfl⟩ := hcs
    exact ⟨[], rfl, Nat.zero_le _, fun x hx => by simp at hx, none, 0, rfl, .inl rfl⟩
  · simp at hcs
    obtain ⟨rfl, rfl, rfl⟩ := hcs
    simp at hmm
    subst hmm
    by_cases h0 : len = 0
    · subst h0
      exact ⟨[], rfl, Nat.zero_le _, fun x hx => by simp at hx, _, _, rfl, .inl rfl⟩
    obtain ⟨b, off, spot⟩ := x
    rw [Try.cellsKey] at hel
    have first := hel 0 (by omega)
    obtain ⟨cs, hc, _⟩ := first
    obtain ⟨_, hcl, hcell⟩ := World.cells?_some hc
    have hspot : spot = none := by
      have e := hcell 0 (by omega)
      match cs, hcl with
      | [v0, v1], _ => simpa [Addr.add] using World.cell?_spot e
    subst hspot
    have hb : b < W.heap.size := by simpa [add_plain] using World.cells?_block hc (by decide)
    have hall : ∀ i, i < len → ∃ y : Ky, ((-9223372036854775808 ≤ y.1 ∧ y.1 ≤ 9223372036854775807) ∧ y.2.size ≤ maxLen) ∧ W.cell? ⟨b, off + i * 2, none⟩ = some (.int .i64 y.1) ∧ W.cell? ⟨b, off + i * 2 + 1, none⟩ = some (.string y.2) := by
      intro i hi
      obtain ⟨cs, hc, ht⟩ := hel i (by omega)
      obtain ⟨_, hcl, hcell⟩ := World.cells?_some hc
      obtain ⟨xs, k, _, _, _, hxl, hfld⟩ := DataW.trod_struct Try.underlying30 ht
      match cs, hcl, xs, hxl with
      | [v0, v1], _, [y0, y1], _ =>
        have g0 := hfld 0 _ rfl
        have g1 := hfld 1 _ rfl
        simp [Try.cells2, Try.cells9] at g0 g1
        obtain ⟨n0, e0, _, w0⟩ := DataW.trod_int Try.underlying2 g0
        obtain ⟨s3, e3, _, w3⟩ := DataW.trod_string Try.underlying9 g1
        simp at e0 e3
        subst e0 e3
        have a0 := hcell 0 (by omega)
        have a1 := hcell 1 (by omega)
        rw [add_add, add_plain] at a0 a1
        exact ⟨(n0, s3), ⟨i64_of_wf w0, w3⟩, by simpa using a0, by simpa [Nat.add_assoc] using a1⟩
    let f : Nat → Ky := fun i => if h : i < len then (hall i h).choose else k0
    have hf' : ∀ i (h : i < len), f i = (hall i h).choose := fun i h => by simp [f, h]
    refine ⟨(List.range len).map f, by simp, by simp; omega, ?_, _, m, by simp, .inr ⟨b, off, rfl, hb, ?_⟩⟩
    · intro x hx
      obtain ⟨i, hi, rfl⟩ := List.mem_map.1 hx
      rw [List.mem_range] at hi
      rw [hf' i hi]
      exact (hall i hi).choose_spec.1
    · intro i x hx
      have hi : i < len := by have := (List.getElem?_eq_some_iff.1 hx).1; simpa using this
      simp [hi] at hx
      subst hx
      rw [hf' i hi]
      exact (hall i hi).choose_spec.2

/-- The law's argument: keys, and bytes. -/
theorem open_ask {H : Type} {enc : TypeId × Value → H} {W : World} {base : Nat} {v : Value} {d : DataW H} {p : List MemPlace} (hv : Value.okWide Try.prog W .any base 24 v) (h : DataW.Trod enc Try.prog W 0 (fun _ => true) true 24 v d p) :
    ∃ vl x l, v = .agg #[vl, .string x] ∧ x.size ≤ maxLen ∧ List.length l ≤ maxLen ∧ Wf l ∧ KS W vl l := by
  obtain ⟨cs, rfl, hcs⟩ := okWide_struct Try.underlying24 hv
  rw [Try.cellsAsk] at hcs
  obtain ⟨fuel, hf⟩ := h
  obtain ⟨xs, k, _, _, _, hxl, hfld⟩ := DataW.trod_struct Try.underlying24 hf
  obtain ⟨cl⟩ := cs
  match cl, hcs, xs, hxl with
  | [v0, v1], _, [y0, y1], _ =>
    have g0 := hfld 0 _ rfl
    have g1 := hfld 1 _ rfl
    simp [Try.cellsKeys, Try.cells9, Value.cells] at g0 g1
    obtain ⟨s3, e3, _, w3⟩ := DataW.trod_string Try.underlying9 g1
    simp at e3
    subst e3
    obtain ⟨a, len, cap, e0⟩ : ∃ a len cap, v0 = .slice a len cap := by
      rcases open_slice Try.underlying22 g0 with ⟨hcs, _⟩ | ⟨x, l, c, m, n, D, Pl, hcs, _⟩
      · simp at hcs; exact ⟨_, _, _, hcs⟩
      · simp at hcs; exact ⟨_, _, _, hcs⟩
    subst e0
    obtain ⟨l, h1, h2, h3, h4⟩ := open_keys g0
    exact ⟨_, s3, l, rfl, w3, h2, h3, h4⟩
end Go.Proofs.Ytkfhfennelckfaa
