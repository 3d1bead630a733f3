/- Cells in memory: a number, and a slice of numbers. -/
import Derived.Test.YtejgcflcckjlpaaGreatDoorBC1M
import Derived.Test.YtejgcflcckjlpaaGreatDoorBC3
import Derived.Test.YtejgcflcckjlpaaGreatDoorBC4
import Derived.Deep.QuietTactic
import Derived.BigQuiet
import Derived.WalkSmall
namespace Go.Proofs.YtejgcflcckjlpaaGreatDoor
open Go.RowKit
set_option linter.unusedVariables false
set_option maxRecDepth 100000

theorem hidM {p : Prop} (h : p) : Hid p := h
theorem nxt {a b c : World} (h : Below a.heap.size a b) (k : Below b.heap.size b c) : Below a.heap.size a c := h.trans (k.mono h.size)
def Drawn (w wr : World) : Prop := ∃ q, wr = w.drewN q
theorem Drawn.refl (w : World) : Drawn w w := ⟨0, rfl⟩
theorem Drawn.step {w wr : World} (h : Drawn w wr) (q : Nat) : Drawn w (wr.drewN q) := by obtain ⟨n, rfl⟩ := h; exact ⟨n + q, by simp [World.drewN, Nat.add_assoc]⟩
theorem Drawn.cell {w wr : World} (h : Drawn w wr) (a : Addr) : wr.cell? a = w.cell? a := by obtain ⟨n, rfl⟩ := h; rfl
theorem Drawn.below {w wr : World} (h : Drawn w wr) (B : Nat) : Below B w wr := by obtain ⟨n, rfl⟩ := h; exact ⟨rfl, rfl, rfl, Nat.le_refl _, fun _ _ => rfl⟩
theorem getSome {α : Type} {l : List α} {i : Nat} (h : i < l.length) : ∃ x, l[i]? = some x := ⟨l[i], List.getElem?_eq_getElem h⟩
theorem Tryz.info2 : (Tryz.prog.info? 2).map (fun i => (i.zero, i.size, i.bytes)) = some (some (.int .i64 0), 1, 8) := by kernel_rfl
theorem own_row {w : World} {base n : Nat} {e : TypeId} {size : Nat} {v : Value} {xs : List Value} (h : w.ownsRow base e size v n xs) : ∀ k, v.ownBlock = some k → base ≤ k := fun k hk => (h.lt k hk).1
/-- A row of numbers of the call's own. -/
abbrev OwnL (w : World) (base : Nat) (v : Value) (l : List Int) : Prop := w.ownsRow base 2 1 v l.length (l.map (Value.int .i64))
theorem OwnL.ns {w : World} {base : Nat} {v : Value} {l : List Int} (h : OwnL w base v l) : NS w v l := by
  rcases h.2 with ⟨rfl, h0⟩ | ⟨g, cap, cur, rfl, _, hb, _, _, _, ht⟩
  · have : l = [] := List.length_eq_zero_iff.1 h0
    subst this
    exact ⟨none, 0, rfl, .inl rfl⟩
  · refine ⟨_, cap, rfl, .inr ⟨g, 0, rfl, (Array.getElem?_eq_some_iff.1 hb).1, ?_⟩⟩
    intro i x hx
    have hi : i < l.length := (List.getElem?_eq_some_iff.1 hx).1
    have h0 : (l.map (Value.int .i64))[i]? = some (.int .i64 x) := by simp [hx]
    rw [← ht, List.getElem?_take_of_lt (by omega)] at h0
    simp only [World.cell?, hb, Nat.zero_add]
    simpa using h0
theorem OwnL.below {w w' : World} {base : Nat} {v : Value} {l : List Int} (h : OwnL w base v l) (hb : Below w.heap.size w w') : OwnL w' base v l := by
  refine ⟨h.1, ?_⟩
  rcases h.2 with ⟨h1, h2⟩ | ⟨g, cap, cur, h1, h2, h3, h4⟩
  · exact .inl ⟨h1, h2⟩
  · exact .inr ⟨g, cap, cur, h1, h2, by rw [hb.block g (Array.getElem?_eq_some_iff.1 h3).1]; exact h3, h4⟩
theorem OwnL.snoc {w : World} {base n : Nat} {v : Value} {l : List Int} {x : Int} (h : w.ownsRow base 2 1 v (n + 1) (l.map (Value.int .i64) ++ [.int .i64 x])) (hn : n = l.length) : OwnL w base v (l ++ [x]) := by
  subst hn
  have : (l ++ [x]).map (Value.int .i64) = l.map (Value.int .i64) ++ [.int .i64 x] := by simp
  unfold OwnL
  rw [this, List.length_append]
  exact h
theorem OwnL.shape {w : World} {base : Nat} {v : Value} {l : List Int} (h : OwnL w base v l) : ∃ a cap, v = .slice a l.length cap := by
  obtain ⟨a, cap, h, _⟩ := OwnL.ns h
  exact ⟨a, cap, h⟩
theorem OwnL.lower {w : World} {base base' : Nat} {v : Value} {l : List Int} (h : OwnL w base v l) (hb : base' ≤ base) : OwnL w base' v l := by
  refine ⟨h.1, ?_⟩
  rcases h.2 with ⟨h1, h2⟩ | ⟨g, cap, cur, h1, h2, h3, h4⟩
  · exact .inl ⟨h1, h2⟩
  · exact .inr ⟨g, cap, cur, h1, by omega, h3, h4⟩
theorem OwnL.nil (w : World) (base : Nat) : OwnL w base (.slice none 0 0) [] := World.ownsRow_nil _ _ _ _
/-- A cell by value: a number, and a slice. -/
def CS (w : World) (v : Value) (c : Cl) : Prop := ∃ a cap, v = .agg #[.int .i64 c.1, .slice a c.2.length cap] ∧ NS w (.slice a c.2.length cap) c.2
def OwnC (w : World) (base : Nat) (v : Value) (c : Cl) : Prop := ∃ a cap, v = .agg #[.int .i64 c.1, .slice a c.2.length cap] ∧ OwnL w base (.slice a c.2.length cap) c.2
theorem CS.below {w w' : World} {v : Value} {c : Cl} (h : CS w v c) (hb : Below w.heap.size w w') : CS w' v c := by
  obtain ⟨a, cap, e, h⟩ := h
  exact ⟨a, cap, e, h.below hb⟩
theorem CS.drawn {w w' : World} {v : Value} {c : Cl} (h : CS w v c) (hb : Drawn w w') : CS w' v c := h.below (hb.below _)
theorem OwnC.below {w w' : World} {base : Nat} {v : Value} {c : Cl} (h : OwnC w base v c) (hb : Below w.heap.size w w') : OwnC w' base v c := by
  obtain ⟨a, cap, e, h⟩ := h
  exact ⟨a, cap, e, h.below hb⟩
theorem OwnC.cs {w : World} {base : Nat} {v : Value} {c : Cl} (h : OwnC w base v c) : CS w v c := by
  obtain ⟨a, cap, e, h⟩ := h
  exact ⟨a, cap, e, h.ns⟩
theorem OwnC.lower {w : World} {base base' : Nat} {v : Value} {c : Cl} (h : OwnC w base v c) (hb : base' ≤ base) : OwnC w base' v c := by
  obtain ⟨a, cap, e, h⟩ := h
  exact ⟨a, cap, e, h.lower hb⟩
theorem OwnC.num (w : World) (base : Nat) (n : Int) : OwnC w base (.agg #[.int .i64 n, .slice none 0 0]) (n, []) := ⟨none, 0, rfl, OwnL.nil _ _⟩
/-- Its numbers are such as an int64 holds. -/
def WfC (c : Cl) : Prop := Num64 c.1 ∧ ∀ v ∈ c.2, Num64 v
/-- The block of a cell. -/
def BlkC (W : World) (b : Nat) (n : Int) (v : Value) : Prop := W.heap[b]? = some (.cells #[.int .i64 n, v] 45 (0, 0))
theorem BlkC.new (W : World) (n : Int) (v : Value) : BlkC (W.alloc (.cells #[.int .i64 n, v] 45)) W.heap.size n v := heap_alloc_new W _
theorem BlkC.lt {W : World} {b : Nat} {n : Int} {v : Value} (h : BlkC W b n v) : b < W.heap.size := (Array.getElem?_eq_some_iff.1 h).1
theorem BlkC.below {W W' : World} {b : Nat} {n : Int} {v : Value} (h : BlkC W b n v) (hb : Below W.heap.size W W') : BlkC W' b n v := by unfold BlkC; rw [hb.block b h.lt]; exact h
theorem BlkC.drewN {W : World} {b : Nat} {n : Int} {v : Value} (h : BlkC W b n v) (q : Nat) : BlkC (W.drewN q) b n v := h
theorem BlkC.cells {W : World} {b : Nat} {n : Int} {v : Value} (h : BlkC W b n v) : W.cell? ⟨b, 0, none⟩ = some (.int .i64 n) ∧ W.cell? ⟨b, 1, none⟩ = some v ∧ W.frozen? ⟨b, 0, none⟩ = false ∧ W.frozen? ⟨b, 1, none⟩ = false := by
  unfold BlkC at h
  refine ⟨?_, ?_, ?_, ?_⟩ <;> simp [World.cell?, World.frozen?, h]
theorem loadCell {W : World} {b o : Nat} {n : Int} {v : Value} (h0 : W.cell? ⟨b, o, none⟩ = some (.int .i64 n)) (h1 : W.cell? ⟨b, o + 1, none⟩ = some v) : (loadVar 45 ⟨b, o, none⟩).run Tryz.prog W = .ok (.agg #[.int .i64 n, v]) W := by
  have a30 := Tryz.isAgg45
  have z30 := Tryz.sizeOf45
  have hc := run_loadCells_list (P := Tryz.prog) W ⟨b, o, none⟩ [.int .i64 n, v] (fun j u hj => by
    match j, hj with
    | 0, hj => simp at hj; subst hj; simpa [Addr.add] using h0
    | 1, hj => simp at hj; subst hj; simpa [Addr.add] using h1)
  simp [loadVar, a30, z30]
  have hc' : (loadCells ⟨b, o, none⟩ 2).run Tryz.prog W = .ok #[.int .i64 n, v] W := hc
  rw [hc']
  rfl
theorem BlkC.load {W : World} {b : Nat} {n : Int} {v : Value} (h : BlkC W b n v) : (loadVar 45 ⟨b, 0, none⟩).run Tryz.prog W = .ok (.agg #[.int .i64 n, v]) W := loadCell h.cells.1 h.cells.2.1
theorem results_cell2 {P : Program} {fn : Func} {t u : Tmp} {T : TypeId} {a : Addr} {x : Value} (h : fn.results = #[.cell t T, .tmp u]) {tmps : Array Value} {w : World} (hp : tmps.getD t undef = .pointer (some a)) (hl : (loadVar T a).run P w = .ok x w) :
    (results fn tmps).run P w = .ok (.tuple #[x, tmps.getD u undef]) w := by
  have hp' : tmps[t]?.getD undef = .pointer (some a) := by simpa using hp
  simp [results, h, hp', hl, asAddr]
theorem results_cell3 {P : Program} {fn : Func} {t u v : Tmp} {T : TypeId} {a : Addr} {x : Value} (h : fn.results = #[.cell t T, .tmp u, .tmp v]) {tmps : Array Value} {w : World} (hp : tmps.getD t undef = .pointer (some a)) (hl : (loadVar T a).run P w = .ok x w) :
    (results fn tmps).run P w = .ok (.tuple #[x, tmps.getD u undef, tmps.getD v undef]) w := by
  have hp' : tmps[t]?.getD undef = .pointer (some a) := by simpa using hp
  simp [results, h, hp', hl, asAddr]
theorem results_cell1 {P : Program} {fn : Func} {t : Tmp} {T : TypeId} {a : Addr} {x : Value} (h : fn.results = #[.cell t T]) {tmps : Array Value} {w : World} (hp : tmps.getD t undef = .pointer (some a)) (hl : (loadVar T a).run P w = .ok x w) :
    (results fn tmps).run P w = .ok x w := by
  have hp' : tmps[t]?.getD undef = .pointer (some a) := by simpa using hp
  simp [results, h, hp', hl, asAddr]
end Go.Proofs.YtejgcflcckjlpaaGreatDoor
