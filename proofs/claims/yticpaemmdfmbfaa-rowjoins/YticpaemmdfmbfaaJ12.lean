/- Keys as the keys of a map; cells under them. -/
import Derived.Test.YticpaemmdfmbfaaJ11
import Derived.Maps.Own
import Derived.Maps.OwnOps
import Derived.Maps.RangeWalk
import Derived.Maps.OwnSet
import Derived.Maps.Views
import Derived.DeepKeys4
namespace Go.Proofs.Yticpaemmdfmbfaa
open Go.RowKit Go.Maps
set_option linter.unusedVariables false
set_option maxRecDepth 100000

theorem laidOut : laidOutB Try.prog = true := by kernel_rfl
theorem Try.cells2 : Try.prog.cellsOf 2 = 1 := by kernel_rfl
theorem Try.cells9 : Try.prog.cellsOf 9 = 1 := by kernel_rfl
theorem i64_of_wf {n : Int} (h : (Lit.int .i64 n).wf = true) : -9223372036854775808 ≤ n ∧ n ≤ 9223372036854775807 := by
  simpa [Lit.wf, IntKind.min, IntKind.max, IntKind.signed, IntKind.bits] using h
theorem Try.rowKey : (52 : TypeId) < Try.prog.types.size := of_decide_eq_true (by kernel_rfl)
theorem Try.wideKey : (match Try.prog.underlying 52 with | some (.array _ _) | some (.struct _) => true | _ => false) = true := by kernel_rfl
theorem klaw : WideMaps.KeyLaw Try.prog 52 := deep_law_laid laidOut (m := 2) (by omega) Try.rowKey (by kernel_rfl) Try.wideKey
theorem law : Keyed Try.prog 52 := Keyed.of_law klaw
theorem Try.keyTypeKey : Try.prog.keyType 52 = true := by kernel_rfl
theorem Try.sizeTypes : ∃ n, Try.prog.types.size = n + 1 := by
  have h : (2 : Nat) < Try.prog.types.size := Nat.lt_trans (by decide) Try.rowKey
  exact ⟨Try.prog.types.size - 1, by omega⟩

/-- A key that may be a map's. -/
def Good (x : Ky) : Prop := (-9223372036854775808 ≤ x.1 ∧ x.1 ≤ 9223372036854775807) ∧ x.2.size ≤ maxLen
def klOf (x : Ky) : Lit := .string (keyBytes [.int .i64 x.1, .string x.2.data.toList])
theorem wf_i64 {n : Int} (h : -9223372036854775808 ≤ n ∧ n ≤ 9223372036854775807) : (Lit.int .i64 n).wf = true := by
  simpa [Lit.wf, IntKind.min, IntKind.max, IntKind.signed, IntKind.bits] using h
theorem lits (d : Nat) (c0 c1 : Value) : Try.prog.keyLits (d + 1) 52 [c0, c1] = ((Try.prog.keyLits d 2 [c0]).bind fun a => (Try.prog.keyLits d 9 [c1]).bind fun b => some (a ++ b)) := by
  rw [Program.keyLits.eq_def]
  simp only [Try.underlying52]
  rw [if_pos ⟨by rw [Try.cellsKey]; rfl, by simp⟩]
  simp only [List.mapM_cons, List.mapM_nil, Try.cells2, Try.cells9]
  cases h1 : Try.prog.keyLits d 2 [c0] <;> cases h2 : Try.prog.keyLits d 9 [c1] <;> simp [h1, h2]
theorem lit2 (d : Nat) (c : Value) (l : List Lit) : Try.prog.keyLits (d + 1) 2 [c] = some l ↔ ∃ a : Int, c = .int .i64 a ∧ (-9223372036854775808 ≤ a ∧ a ≤ 9223372036854775807) ∧ l = [.int .i64 a] := by
  constructor
  · intro h
    cases c <;> simp [Program.keyLits, Try.underlying2] at h
    obtain ⟨⟨rfl, hw⟩, rfl⟩ := h
    exact ⟨_, rfl, i64_of_wf hw, rfl⟩
  · rintro ⟨a, rfl, ha, rfl⟩
    simp [Program.keyLits, Try.underlying2, wf_i64 ha]
theorem lit9 (d : Nat) (c : Value) (l : List Lit) : Try.prog.keyLits (d + 1) 9 [c] = some l ↔ ∃ s : ByteArray, c = .string s ∧ s.size ≤ maxLen ∧ l = [.string s.data.toList] := by
  constructor
  · intro h
    cases c <;> simp [Program.keyLits, Try.underlying9] at h
    obtain ⟨hw, rfl⟩ := h
    exact ⟨_, rfl, hw, rfl⟩
  · rintro ⟨a, rfl, ha, rfl⟩
    simp [Program.keyLits, Try.underlying9, ha]
theorem key_mk {x : Ky} (h : Good x) : keyOf Try.prog 52 (.agg #[.int .i64 x.1, .string x.2]) = some (klOf x) := by
  obtain ⟨n, hn⟩ := Try.sizeTypes
  have h1 := (lit2 n (.int .i64 x.1) _).2 ⟨x.1, rfl, h.1, rfl⟩
  have h2 := (lit9 n (.string x.2) _).2 ⟨x.2, rfl, h.2, rfl⟩
  have hf : (Value.agg #[.int .i64 x.1, .string x.2]).formed Try.prog 52 = true := by simp [Value.formed, Try.underlying52, Try.cellsKey]
  unfold keyOf
  simp only [Try.underlying52, Try.keyTypeKey, hf, Bool.and_self, if_true]
  rw [show (Value.agg #[.int .i64 x.1, .string x.2]).cells.toList = [.int .i64 x.1, .string x.2] from rfl, hn, lits, h1, h2]
  rfl
theorem key_inv {v : Value} {l : Lit} (h : keyOf Try.prog 52 v = some l) : ∃ x : Ky, v = .agg #[.int .i64 x.1, .string x.2] ∧ l = klOf x ∧ Good x := by
  obtain ⟨xs, L, rfl, hL, rfl⟩ := keyOf_top Try.wideKey h
  have hlen : xs.toList.length = 2 := by
    rw [Program.keyLits.eq_def] at hL
    simp only [Try.underlying52] at hL
    split at hL
    · rename_i hc
      rw [hc.1, Try.cellsKey]
    · cases hL
  obtain ⟨n, hn⟩ := Try.sizeTypes
  obtain ⟨xl⟩ := xs
  match xl, hlen with
  | [c0, c1], _ =>
    have hL' : Try.prog.keyLits (Try.prog.types.size + 1) 52 [c0, c1] = some L := hL
    rw [hn, lits] at hL'
    cases h1 : Try.prog.keyLits (n + 1) 2 [c0] with
    | none => rw [h1] at hL'; cases hL'
    | some l1 =>
      cases h2 : Try.prog.keyLits (n + 1) 9 [c1] with
      | none => rw [h1, h2] at hL'; cases hL'
      | some l2 =>
        obtain ⟨a, rfl, ha, rfl⟩ := (lit2 _ _ _).1 h1
        obtain ⟨s, rfl, hs, rfl⟩ := (lit9 _ _ _).1 h2
        rw [h1, h2] at hL'
        injection hL' with hL'
        subst hL'
        exact ⟨(a, s), rfl, rfl, ha, hs⟩
theorem kl_inj {x y : Ky} (hx : Good x) (hy : Good y) (h : klOf x = klOf y) : x = y := by
  have h1 := key_mk hx
  have h2 := key_mk hy
  rw [h] at h1
  have := law.inj h1 h2
  injection this with this
  injection this with this
  injection this with e1 e2
  injection e1 with _ e1
  injection e2 with e2 _
  injection e2 with e2
  exact Prod.ext e1 e2
abbrev keyV (x : Ky) : Value := .agg #[.int .i64 x.1, .string x.2]
theorem kl_key (x : Ky) : WideAt.IsKeyLit (klOf x) := trivial
theorem kl_same (x : Ky) : (klOf x).sameKey (klOf x) = true := by simp [klOf, Lit.sameKey]
theorem invK (key : Value) (kl : Lit) (h : keyOf Try.prog 52 key = some kl) : ∃ x : Ky, key = keyV x := by
  obtain ⟨x, hx, _⟩ := key_inv h
  exact ⟨x, hx⟩
theorem key_back {x : Ky} {kl : Lit} (h : keyOf Try.prog 52 (keyV x) = some kl) : kl = klOf x ∧ Good x := by
  obtain ⟨x', e, rfl, hg⟩ := key_inv h
  injection e with e
  injection e with e
  injection e with e1 e2
  injection e1 with _ e1
  injection e2 with e2 _
  injection e2 with e2
  obtain rfl : x = x' := Prod.ext e1 e2
  exact ⟨rfl, hg⟩
/-- How an element reads: as itself. -/
def RC (v : Value) : Option (DataW Value × List MemPlace) := some (.held v, [])
theorem invV (v : Value) (y : DataW Value × List MemPlace) (h : RC v = some y) : ∃ c : Value, v = id c := ⟨v, rfl⟩
theorem rc_held {v : Value} {d : DataW Value} {ps : List MemPlace} (h : RC v = some (d, ps)) : d = .held v := by
  injection h with h
  injection h with h _
  exact h.symm
theorem zeroC (w : World) : (zeroValue 60).run Try.prog w = .ok (cellV 0 (none, 0, 0)) w := by kernel_rfl
abbrev zC : Value := cellV 0 (none, 0, 0)
/-- The map holds the cells of st. -/
structure MapC (w : World) (base : Nat) (D : DataW Value) (st : List Rw) : Prop where
  tidy : Tidy D
  size : Maps.size D = st.length
  non : ∀ x, Good x → look st x = none → Maps.has D (klOf x) = false
  yes : ∀ x c, Good x → look st x = some c → ∃ s : Sl, (∀ z, D.atKey (klOf x) z = .held (cellV c.1 s)) ∧ OwnL w base (slV s) c.2
theorem MapC.start (w : World) (base : Nat) : MapC w base (.map []) [] := ⟨tidy_empty, rfl, fun x _ _ => by simp [Maps.has], fun x c _ h => by simp [look] at h⟩
theorem MapC.keep {w w' : World} {base : Nat} {D : DataW Value} {st : List Rw} (h : MapC w base D st) (k : Keep2 w w') : MapC w' base D st :=
  ⟨h.tidy, h.size, h.non, fun x c hx hc => by obtain ⟨s, h1, h2⟩ := h.yes x c hx hc; exact ⟨s, h1, h2.keep k⟩⟩
/-- One more under its key. -/
theorem MapC.put {w : World} {base : Nat} {D : DataW Value} {st st' : List Rw} {x : Ky} {c : Cl} {s : Sl} (h : MapC w base D st) (hx : Good x) (hs : OwnL w base (slV s) c.2)
    (hlen : st'.length = if (look st x).isSome then st.length else st.length + 1) (hl : ∀ y, look st' y = if y = x then some c else look st y) : MapC w base (D.put (klOf x) (.held (cellV c.1 s))) st' := by
  have hi := h.tidy.isMap
  have hhas : Maps.has D (klOf x) = (look st x).isSome := by
    cases e : look st x with
    | none => exact h.non x hx e
    | some d =>
      obtain ⟨s', h1, _⟩ := h.yes x d hx e
      exact has_true_of_atKey h1
  refine ⟨h.tidy.put (kl_key x) _, ?_, fun y hy hn => ?_, fun y d hy hd => ?_⟩
  · rw [size_put h.tidy, hhas, h.size, hlen]
  · rw [hl] at hn
    by_cases e : y = x
    · rw [if_pos e] at hn; cases hn
    · rw [if_neg e] at hn
      rw [has_put_other (fun e' => e (kl_inj hy hx e'))]
      exact h.non y hy hn
  · rw [hl] at hd
    by_cases e : y = x
    · rw [if_pos e] at hd
      injection hd with hd
      subst e hd
      exact ⟨s, fun z => atKey_put_same hi (kl_key y) _ z, hs⟩
    · rw [if_neg e] at hd
      obtain ⟨s', h1, h2⟩ := h.yes y d hy hd
      exact ⟨s', fun z => by rw [atKey_put_other (fun e' => e (kl_inj hy hx e'))]; exact h1 z, h2⟩
end Go.Proofs.Yticpaemmdfmbfaa
