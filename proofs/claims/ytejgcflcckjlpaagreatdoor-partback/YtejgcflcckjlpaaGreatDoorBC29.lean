/- Texts laid together: WApp, WChkF, WByF. -/
import Derived.Test.YtejgcflcckjlpaaGreatDoorBC24
import Derived.Test.YtejgcflcckjlpaaGreatDoorBC28
import Derived.Test.YtejgcflcckjlpaaGreatDoorBC18M
import Derived.Test.YtejgcflcckjlpaaGreatDoorBC20
import Derived.Test.YtejgcflcckjlpaaGreatDoorBC27
import Derived.Test.YtejgcflcckjlpaaGreatDoorBC25
import Derived.Test.YtejgcflcckjlpaaGreatDoorRows
import Derived.Shelf.Lay
import Derived.Shelf.Strings.Builder1
import Derived.WalkKit
/- Rows appended to rows; a row copied; rows compared. -/
namespace Go.Proofs.YtejgcflcckjlpaaGreatDoor
open Go.RowKit
set_option linter.unusedVariables false
set_option maxRecDepth 100000

/-- An append whose run is known, at the list of a plain region's operations. -/
theorem wpList_append_run {P : Program} (w : World) {ops : Array Oper} {rest : List Oper} {o : Oper} {a : Act} {Q : Exit → Act → World → Prop} (hgd : o.guard = none) (s x : Operand) (t : TypeId)
    (ho : o.op = .call { callee := .builtin .append, args := #[s, x], argTypes := #[t, t] }) (v u v' : Value) (w' : World) (hs : a.eval s = v) (hx : a.eval x = u)
    (hr : (Builtin.append_ #[t, t] o.type #[v, u]).run P w = .ok v' w') (h : wpList P ops Q rest (a.put o.dst v') w') : wpList P ops Q (o :: rest) a w := by
  refine wpList_plain hgd fun K hK => ?_
  unfold Oper.wp execOp
  simp only [ho, resolve, invoke, builtin, Sem.run_bind, Sem.run_pure, Result.andThen_ok, List.map_toArray, List.map_cons, List.map_nil, hs, hx, hr]
  exact hK _ _ h
/-- The slice v holds the rows as they lie. -/
def XS (w : World) (v : Value) (ys : List Raw) : Prop := ∃ a cap, v = .slice a ys.length cap ∧ (ys = [] ∨ ∃ b off, a = some ⟨b, off, none⟩ ∧ b < w.heap.size ∧ ∀ (j : Nat) (u : Value), (flatW ys)[j]? = some u → w.cell? ⟨b, off + j, none⟩ = some u)
theorem XS.below {w w' : World} {v : Value} {ys : List Raw} (h : XS w v ys) (hb : Below w.heap.size w w') : XS w' v ys := by
  obtain ⟨a, cap, rfl, h⟩ := h
  refine ⟨a, cap, rfl, ?_⟩
  rcases h with h | ⟨b, off, rfl, hlt, h⟩
  · exact .inl h
  · exact .inr ⟨b, off, rfl, Nat.lt_of_lt_of_le hlt hb.size, fun j u hj => (hb.cell (p := ⟨b, _, none⟩) hlt).trans (h j u hj)⟩
theorem append_xs {W : World} {base : Nat} {v u : Value} {l m : List Raw} (ty : TypeId) (hown : OwnX W base v l) (hns : XS W u m) (hl : l.length + m.length ≤ 1000000) (hb : base ≤ W.heap.size) :
    ∃ v' W', (Builtin.append_ #[29, 29] ty #[v, u]).run Tryz.prog W = .ok v' W' ∧ OwnX W' base v' (l ++ m) ∧ W.grownBy W' v.ownBlock ∧ (v'.ownBlock = v.ownBlock ∨ v'.ownBlock = some W.heap.size) := by
  obtain ⟨i0, hi, hz0, hz1, hz2⟩ := info_parts Tryz.infoRow
  obtain ⟨a, cap, rfl, h⟩ := hns
  have go : ∀ (ad : Addr) (news : List Value), news = flatW m → (∀ j u, news[j]? = some u → W.cell? (ad.add j) = some u) → ∃ v' W', (Builtin.append_ #[29, 29] ty #[v, .slice (some ad) m.length cap]).run Tryz.prog W = .ok v' W' ∧ OwnX W' base v' (l ++ m) ∧ W.grownBy W' v.ownBlock ∧ (v'.ownBlock = v.ownBlock ∨ v'.ownBlock = some W.heap.size) := by
    intro ad news hn hc
    obtain ⟨v', w', hr, h2, h3, _, h5⟩ := run_append_own_at (P := Tryz.prog) W base 29 ty 47 i0 _ 4 56 Tryz.underlying29 hi hz0 hz1 hz2 rfl (by decide) v l.length (flatW l) hown ad m.length cap news (by subst hn; exact flatW_len m) hc (by subst hn; exact flatW_cell m) (by unfold maxLen; omega) (by omega) hb
    refine ⟨v', w', hr, ?_, h3, h5⟩
    subst hn
    unfold OwnX
    rw [flatW_app, List.length_append]
    exact h2
  rcases h with rfl | ⟨b, off, rfl, hb, hat⟩
  · cases a with
    | none =>
      refine ⟨v, W, ?_, by rw [List.append_nil]; exact hown, World.grownBy.refl _ _, .inl rfl⟩
      rcases hown.2 with ⟨rfl, h0⟩ | ⟨g, cap', cur, rfl, _, _, hnc, _⟩
      · simp [Builtin.append_, run_underlying Tryz.underlying29, sizeOf, typeInfo, hi, Builtin.lenOf, Builtin.firstCells]
      · simp [Builtin.append_, run_underlying Tryz.underlying29, sizeOf, typeInfo, hi, Builtin.lenOf, Builtin.firstCells, hnc, storeCells]
    | some ad => exact go ad [] rfl (fun j u hj => by simp at hj)
  · refine go ⟨b, off, none⟩ _ rfl fun j u hj => ?_
    rw [Addr.add_lit]
    exact hat j u hj
/-- A part of what the call owns. -/
theorem OwnX.cell {w : World} {base g cap : Nat} {n : Nat} {xs : List Raw} (h : OwnX w base (.slice (some ⟨g, 0, none⟩) n cap) xs) : g < w.heap.size ∧ n = xs.length ∧ xs.length ≤ cap ∧ ∀ (j : Nat) (u : Value), (flatW xs)[j]? = some u → w.cell? ⟨g, j, none⟩ = some u := by
  rcases h.2 with ⟨h1, _⟩ | ⟨g', cap', cur, h1, _, hb, hn, _, hs, ht⟩
  · cases h1
  · injection h1 with e1 e2 e3
    injection e1 with e1
    injection e1 with e1
    subst e1 e2 e3
    refine ⟨(Array.getElem?_eq_some_iff.1 hb).1, rfl, hn, fun j u hj => ?_⟩
    have hjl : j < xs.length * 4 := by have := (List.getElem?_eq_some_iff.1 hj).1; rwa [flatW_len] at this
    rw [← ht, List.getElem?_take_of_lt hjl] at hj
    simp only [World.cell?, hb]
    simpa using hj
theorem flatW_take (xs : List Raw) (p : Nat) : flatW (xs.take p) = (flatW xs).take (p * 4) := by
  induction xs generalizing p with
  | nil => simp
  | cons a l ih =>
    cases p with
    | zero => simp
    | succ p =>
      rw [List.take_succ_cons]
      show encW a ++ flatW (l.take p) = (encW a ++ flatW l).take ((p + 1) * 4)
      have e1 : (p + 1) * 4 = (encW a).length + p * 4 := by simp [encW]; omega
      rw [ih, e1, List.take_length_add_append]
theorem flatW_drop (xs : List Raw) (p : Nat) : flatW (xs.drop p) = (flatW xs).drop (p * 4) := by
  induction xs generalizing p with
  | nil => simp
  | cons a l ih =>
    cases p with
    | zero => simp
    | succ p =>
      rw [List.drop_succ_cons]
      show flatW (l.drop p) = (encW a ++ flatW l).drop ((p + 1) * 4)
      have e1 : (p + 1) * 4 = (encW a).length + p * 4 := by simp [encW]; omega
      rw [ih, e1, List.drop_length_add_append]
theorem XS.take {w : World} {base g cap n : Nat} {xs : List Raw} (h : OwnX w base (.slice (some ⟨g, 0, none⟩) n cap) xs) (p : Nat) (hp : p ≤ xs.length) (cap' : Nat) : XS w (.slice (some ⟨g, 0, none⟩) p cap') (xs.take p) := by
  obtain ⟨h1, -, -, h2⟩ := h.cell
  refine ⟨_, cap', by simp [hp], .inr ⟨g, 0, rfl, h1, fun j u hj => ?_⟩⟩
  rw [flatW_take] at hj
  rw [Nat.zero_add]
  exact h2 j u (by
    have hlt := (List.getElem?_eq_some_iff.1 hj).1
    rw [List.length_take] at hlt
    rwa [List.getElem?_take_of_lt (by omega)] at hj)
theorem XS.drop {w : World} {base g cap n : Nat} {xs : List Raw} (h : OwnX w base (.slice (some ⟨g, 0, none⟩) n cap) xs) (p : Nat) (hp : p ≤ xs.length) (cap' : Nat) : XS w (.slice (some ⟨g, p * 4, none⟩) (xs.length - p) cap') (xs.drop p) := by
  obtain ⟨h1, -, -, h2⟩ := h.cell
  refine ⟨_, cap', by simp, .inr ⟨g, p * 4, rfl, h1, fun j u hj => ?_⟩⟩
  rw [flatW_drop, List.getElem?_drop] at hj
  exact h2 _ u hj
theorem XS.new (w : World) (x : Raw) : XS (w.alloc (.cells #[.int .i64 x.1.1, .string x.1.2, .int .i64 x.2.1, slV x.2.2] 47)) (.slice (some ⟨w.heap.size, 0, none⟩) 1 1) [x] := by
  refine ⟨_, 1, rfl, .inr ⟨w.heap.size, 0, rfl, by simp, fun j u hj => ?_⟩⟩
  have := cell_row_new w x.1.1 x.1.2 x.2.1 (slV x.2.2) 47 j u hj
  rwa [Addr.add_lit] at this
theorem IsW.below {w w' : World} {base : Nat} {x : Raw} {r : Rw} (h : IsW w base x r) (hb : Below w.heap.size w w') : IsW w' base x r := h.keep (.below hb)
theorem loadRow {W : World} {b o : Nat} {a : Int} {t : ByteArray} {n : Int} {v : Value} (h0 : W.cell? ⟨b, o, none⟩ = some (.int .i64 a)) (h1 : W.cell? ⟨b, o + 1, none⟩ = some (.string t)) (h2 : W.cell? ⟨b, o + 2, none⟩ = some (.int .i64 n)) (h3 : W.cell? ⟨b, o + 3, none⟩ = some v) :
    (loadVar 47 ⟨b, o, none⟩).run Tryz.prog W = .ok (.agg #[.int .i64 a, .string t, .int .i64 n, v]) W := by
  have a30 := Tryz.isAgg47
  have z30 := Tryz.sizeOf47
  have hc := run_loadCells_list (P := Tryz.prog) W ⟨b, o, none⟩ [.int .i64 a, .string t, .int .i64 n, v] (fun j u hj => by
    match j, hj with
    | 0, hj => simp at hj; subst hj; simpa [Addr.add] using h0
    | 1, hj => simp at hj; subst hj; simpa [Addr.add] using h1
    | 2, hj => simp at hj; subst hj; simpa [Addr.add] using h2
    | 3, hj => simp at hj; subst hj; simpa [Addr.add] using h3)
  simp [loadVar, a30, z30]
  have hc' : (loadCells ⟨b, o, none⟩ 4).run Tryz.prog W = .ok #[.int .i64 a, .string t, .int .i64 n, v] W := hc
  rw [hc']
  rfl
/-- A block of four cells. -/
def Blk4 (W : World) (b : Nat) (x0 x1 x2 x3 : Value) : Prop := W.heap[b]? = some (.cells #[x0, x1, x2, x3] 47 (0, 0))
theorem Blk4.lt {W : World} {b : Nat} {x0 x1 x2 x3 : Value} (h : Blk4 W b x0 x1 x2 x3) : b < W.heap.size := (Array.getElem?_eq_some_iff.1 h).1
theorem Blk4.new (W : World) (x0 x1 x2 x3 : Value) : Blk4 (W.alloc (.cells #[x0, x1, x2, x3] 47)) W.heap.size x0 x1 x2 x3 := heap_alloc_new W _
theorem Blk4.below {W W' : World} {b : Nat} {x0 x1 x2 x3 : Value} (h : Blk4 W b x0 x1 x2 x3) (hb : Below W.heap.size W W') : Blk4 W' b x0 x1 x2 x3 := by unfold Blk4; rw [hb.block b h.lt]; exact h
theorem Blk4.cells {W : World} {b : Nat} {x0 x1 x2 x3 : Value} (h : Blk4 W b x0 x1 x2 x3) : W.cell? ⟨b, 0, none⟩ = some x0 ∧ W.cell? ⟨b, 1, none⟩ = some x1 ∧ W.cell? ⟨b, 2, none⟩ = some x2 ∧ W.cell? ⟨b, 3, none⟩ = some x3 ∧ W.frozen? ⟨b, 0, none⟩ = false ∧ W.frozen? ⟨b, 1, none⟩ = false ∧ W.frozen? ⟨b, 2, none⟩ = false ∧ W.frozen? ⟨b, 3, none⟩ = false := by
  unfold Blk4 at h
  refine ⟨?_, ?_, ?_, ?_, ?_, ?_, ?_, ?_⟩ <;> simp [World.cell?, World.frozen?, h]
theorem Blk4.set0 {W : World} {b : Nat} {x0 x1 x2 x3 : Value} (h : Blk4 W b x0 x1 x2 x3) (u : Value) : Blk4 (W.setCell ⟨b, 0, none⟩ u) b u x1 x2 x3 := by
  unfold Blk4 at h ⊢
  simp [World.setCell, Array.getElem?_modify, h]
theorem Blk4.set1 {W : World} {b : Nat} {x0 x1 x2 x3 : Value} (h : Blk4 W b x0 x1 x2 x3) (u : Value) : Blk4 (W.setCell ⟨b, 1, none⟩ u) b x0 u x2 x3 := by
  unfold Blk4 at h ⊢
  simp [World.setCell, Array.getElem?_modify, h]
theorem Blk4.set2 {W : World} {b : Nat} {x0 x1 x2 x3 : Value} (h : Blk4 W b x0 x1 x2 x3) (u : Value) : Blk4 (W.setCell ⟨b, 2, none⟩ u) b x0 x1 u x3 := by
  unfold Blk4 at h ⊢
  simp [World.setCell, Array.getElem?_modify, h]
theorem Blk4.set3 {W : World} {b : Nat} {x0 x1 x2 x3 : Value} (h : Blk4 W b x0 x1 x2 x3) (u : Value) : Blk4 (W.setCell ⟨b, 3, none⟩ u) b x0 x1 x2 u := by
  unfold Blk4 at h ⊢
  simp [World.setCell, Array.getElem?_modify, h]
theorem Blk4.other {W : World} {b b' o : Nat} {x0 x1 x2 x3 u : Value} (h : Blk4 W b x0 x1 x2 x3) (hne : b ≠ b') : Blk4 (W.setCell ⟨b', o, none⟩ u) b x0 x1 x2 x3 := by
  unfold Blk4 at h ⊢
  rw [Below.heap_setCell _ _ _ _ (by show b ≠ b'; exact hne)]
  exact h
theorem Blk4.load {W : World} {b : Nat} {a : Int} {t : ByteArray} {n : Int} {v : Value} (h : Blk4 W b (.int .i64 a) (.string t) (.int .i64 n) v) : (loadVar 47 ⟨b, 0, none⟩).run Tryz.prog W = .ok (.agg #[.int .i64 a, .string t, .int .i64 n, v]) W := loadRow h.cells.1 h.cells.2.1 h.cells.2.2.1 h.cells.2.2.2.1
end Go.Proofs.YtejgcflcckjlpaaGreatDoor
/- row.mayFollow; row.Check of rows that may be. -/
namespace Go.Proofs.YtejgcflcckjlpaaGreatDoor
open Go.RowKit
set_option linter.unusedVariables false

/-- May a key stand behind rows? -/
def mayFol (l : List Rw) (k : Ky) : Bool := decide (l.length < 1536) && (match l.getLast? with | none => true | some r => ltK r.1 k)
theorem last_at {l : List Rw} (h : 0 < l.length) : ∃ r, l[l.length - 1]? = some r ∧ l.getLast? = some r := by
  obtain ⟨r, hr⟩ := getSome (l := l) (i := l.length - 1) (by omega)
  exact ⟨r, hr, by rw [List.getLast?_eq_getElem?]; exact hr⟩
set_option maxHeartbeats 800000 in
theorem mayFollow_any (v : Value) (l : List Rw) (k : Ky) (w : World) (h : WS w v l) (hl : l.length ≤ 100000) :
    Calls Tryz.prog 38 #[v, keyV k] w (BoolR w (mayFol l k)) := by
  obtain ⟨ka, kb⟩ := k
  obtain ⟨a, cap, rfl, hsh⟩ := h
  have hst : ∀ (W : World) (o : Obj), Below W.heap.size W (W.alloc o) := fun W o => (Below.refl _ _).alloc (Nat.le_refl _) _
  have hb0 := hst w (.cells #[.int .i64 ka, .string kb] 42)
  simp only [keyV]
  unfold mayFol
  by_cases hm : l.length < 1536
  · have hm' : (l.length : Int) < 1536 := by omega
    rw [decide_eq_true hm, Bool.true_and]
    by_cases h0 : l.length = 0
    · have : l = [] := List.length_eq_zero_iff.1 h0
      subst this
      have HB := hidM hb0
      clear hsh hst hb0
      go_enter Tryz.func38, Tryz.ntmps38
      go_wp2
      go_quiet (fail)
      go_wp2
      go_ret
      exact ⟨rfl, nxt HB.out (Drawn.below ⟨_, rfl⟩ _)⟩
    · obtain ⟨⟨⟨xa, xb⟩, xn, xl⟩, hr, hla⟩ := last_at (l := l) (by omega)
      rw [hla]
      rcases hsh with rfl | ⟨b, off, rfl, hb, hat⟩
      · simp at h0
      obtain ⟨W0, hW0⟩ : ∃ W0 : World, W0 = w.alloc (.cells #[.int .i64 ka, .string kb] 42) := ⟨_, rfl⟩
      rw [← hW0] at hb0
      have hbk : W0.heap[w.heap.size]? = some (.cells #[.int .i64 ka, .string kb] 42 (0, 0)) := by rw [hW0]; exact heap_alloc_new w _
      have hk := (Array.getElem?_eq_some_iff.1 hbk).1
      obtain ⟨m, hm1⟩ : ∃ m, l.length = m + 1 := ⟨l.length - 1, by omega⟩
      rw [show l.length - 1 = m by omega] at hr
      obtain ⟨c0, c1, -⟩ := (hat.below hb0 hb) m _ hr
      have hb' : b < W0.heap.size := by omega
      have HS := hidM (show ∀ W, Below W0.heap.size W0 W → W.cell? ⟨b, off + m * 4, none⟩ = some (.int .i64 xa) ∧ W.cell? ⟨b, off + m * 4 + 1, none⟩ = some (.string xb) ∧ W.cell? ⟨w.heap.size, 0, none⟩ = some (.int .i64 ka) ∧ W.cell? ⟨w.heap.size, 1, none⟩ = some (.string kb) from fun W hW => by
        obtain ⟨q0, q1⟩ := blk2 ((hW.block w.heap.size hk).trans hbk)
        exact ⟨(hW.cell (p := ⟨b, _, none⟩) hb').trans c0, (hW.cell (p := ⟨b, _, none⟩) hb').trans c1, q0, q1⟩)
      have HC := hidM (fun W => kcmp_any (xa, xb) (ka, kb) W)
      have hneg := cfK_lt0 (xa, xb) (ka, kb)
      obtain ⟨cf, hcf⟩ : ∃ cf : Int, cf = cfK (xa, xb) (ka, kb) := ⟨_, rfl⟩
      rw [← hcf] at HC hneg
      have HNEG := hidM hneg
      have HW := hidM hW0.symm
      have HB := hidM hb0
      have HL := hidM hm1
      have h0' : ¬ ((l.length : Int) = 0) := by omega
      have hsub : (l.length : Int) - 1 = (m : Int) := by omega
      have hd1 : decide ((l.length : Int) < 1536) = true := decide_eq_true hm'
      have hd2 : decide ((l.length : Int) = 0) = false := decide_eq_false h0'
      have hd3 : ((l.length : Int) == 0) = false := beq_eq_false_iff_ne.2 h0'
      have hmlt : m < l.length := by omega
      have hwr : IntKind.i64.wrap ((l.length : Int) - 1) = (m : Int) := by rw [IntKind.wrap_i64]; omega
      have hm0 : (0 : Int) ≤ (m : Int) := by omega
      have hmi : (m : Int) < (l.length : Int) := by omega
      clear hm1 hW0 hbk hat c0 c1 hb0 hst hcf hneg hr hla hsub
      go_enter Tryz.func38, Tryz.ntmps38
      go_wp2_with fail
      rw [HW.out]
      go_region_held3 (fun W => W.cell? ⟨b, off + m * 4, none⟩ = some (.int .i64 xa) ∧ W.cell? ⟨b, off + m * 4 + 1, none⟩ = some (.string xb) ∧ W.cell? ⟨w.heap.size, 0, none⟩ = some (.int .i64 ka) ∧ W.cell? ⟨w.heap.size, 1, none⟩ = some (.string kb))
        (first | exact HS.out _ (Below.refl _ _).drew | exact HS.out _ (below_grow _ _ _))
        (first | (go_at_call 53; refine (HC.out _).mono ?_; rintro e W3 ⟨rfl, q3, os3, rfl⟩))
      have hneg := HNEG.out
      go_wp2
      go_ret
      exact ⟨by rw [← hneg]; rfl, nxt HB.out (below_grow _ _ _)⟩
  · have hm' : ¬ (l.length : Int) < 1536 := by omega
    have hd1 : decide ((l.length : Int) < 1536) = false := decide_eq_false hm'
    rw [decide_eq_false hm, Bool.false_and]
    have HB := hidM hb0
    clear hsh hst hb0
    go_enter Tryz.func38, Tryz.ntmps38
    go_wp2
    go_quiet (fail)
    go_wp2
    go_ret
    exact ⟨rfl, nxt HB.out (Drawn.below ⟨_, rfl⟩ _)⟩
theorem OwnW.cap {w : World} {base : Nat} {v : Value} {l : List Rw} (h : OwnW w base v l) : CapOk v := by
  obtain ⟨xs, hx, -⟩ := h
  rcases hx.2 with ⟨rfl, -⟩ | ⟨g, cap, cur, rfl, -, -, hn, -⟩
  · exact Nat.le_refl _
  · exact hn
/-- Rows that may be. -/
def okRows (agg bound : Int) (l : List Rw) : Bool := wayC agg bound && (decide (l.length ≤ 1536) && l.all (fun r => decide (r.1.2.size ≤ 64) && chk agg bound r.2) && decide (RiseK l))
/-- .. so far. -/
structure OkTo (agg bound : Int) (l : List Rw) (k : Nat) : Prop where
  all : ∀ r ∈ l.take k, r.1.2.size ≤ 64 ∧ chk agg bound r.2 = true
  rise : RiseK (l.take k)
  len : k ≤ 1536
theorem OkTo.start (agg bound : Int) (l : List Rw) : OkTo agg bound l 0 := ⟨by simp, by simp [RiseK], by omega⟩
theorem rise_snocK {l : List Rw} {r : Rw} (h : RiseK l) (hl : ∀ x, l.getLast? = some x → ltK x.1 r.1 = true) : RiseK (l ++ [r]) := by
  unfold RiseK
  rw [List.pairwise_append]
  refine ⟨h, by simp, fun a ha b hb => ?_⟩
  simp at hb
  subst hb
  obtain ⟨i, hi⟩ := List.getElem?_of_mem ha
  obtain ⟨x, hx, hx'⟩ := last_at (l := l) (by have := (List.getElem?_eq_some_iff.1 hi).1; omega)
  have hlt := hl x hx'
  have hil := (List.getElem?_eq_some_iff.1 hi).1
  by_cases e : i = l.length - 1
  · rw [e, hx] at hi
    injection hi with hi
    rw [← hi]
    exact hlt
  · obtain ⟨h1, rfl⟩ := List.getElem?_eq_some_iff.1 hi
    obtain ⟨h2, rfl⟩ := List.getElem?_eq_some_iff.1 hx
    exact ltK_trans ((List.pairwise_iff_getElem.1 h) i (l.length - 1) h1 h2 (by omega)) hlt
theorem OkTo.step {agg bound : Int} {l : List Rw} {k : Nat} {r : Rw} (h : OkTo agg bound l k) (hr : l[k]? = some r) (h1 : r.1.2.size ≤ 64) (h2 : chk agg bound r.2 = true) (h3 : mayFol (l.take k) r.1 = true) : OkTo agg bound l (k + 1) := by
  have hstep : l.take (k + 1) = l.take k ++ [r] := by rw [List.take_add_one, hr]; rfl
  have hkl := (List.getElem?_eq_some_iff.1 hr).1
  unfold mayFol at h3
  rw [Bool.and_eq_true, decide_eq_true_eq, List.length_take, Nat.min_eq_left (by omega)] at h3
  refine ⟨fun x hx => ?_, ?_, by omega⟩
  · rw [hstep] at hx
    rcases List.mem_append.1 hx with hx | hx
    · exact h.all x hx
    · simp at hx; subst hx; exact ⟨h1, h2⟩
  · rw [hstep]
    refine rise_snocK h.rise fun x hx => ?_
    have := h3.2
    rw [hx] at this
    exact this
theorem OkTo.fin {agg bound : Int} {l : List Rw} {k : Nat} (h : OkTo agg bound l k) (hw : wayC agg bound = true) (hk : l.length ≤ k) : okRows agg bound l = true := by
  obtain ⟨h1, h2, h3⟩ := h
  rw [List.take_of_length_le hk] at h1 h2
  unfold okRows
  rw [hw, Bool.true_and, Bool.and_eq_true, Bool.and_eq_true, decide_eq_true_eq, decide_eq_true_eq, List.all_eq_true]
  exact ⟨⟨by omega, fun r hr => by rw [Bool.and_eq_true, decide_eq_true_eq]; exact h1 r hr⟩, h2⟩
theorem okRows_parts {agg bound : Int} {l : List Rw} (h : okRows agg bound l = true) : wayC agg bound = true ∧ l.length ≤ 1536 ∧ (∀ r ∈ l, r.1.2.size ≤ 64 ∧ chk agg bound r.2 = true) ∧ RiseK l := by
  unfold okRows at h
  rw [Bool.and_eq_true, Bool.and_eq_true, Bool.and_eq_true, decide_eq_true_eq, decide_eq_true_eq, List.all_eq_true] at h
  exact ⟨h.1, h.2.1.1, fun r hr => by have := h.2.1.2 r hr; rwa [Bool.and_eq_true, decide_eq_true_eq] at this, h.2.2⟩
theorem OkTo.bad {agg bound : Int} {l : List Rw} {k : Nat} {r : Rw} (h : OkTo agg bound l k) (hr : l[k]? = some r) (hb : ¬ (r.1.2.size ≤ 64 ∧ chk agg bound r.2 = true ∧ mayFol (l.take k) r.1 = true)) : okRows agg bound l = false := by
  cases ho : okRows agg bound l with
  | false => rfl
  | true =>
    exfalso
    obtain ⟨_, h1, h2, h3⟩ := okRows_parts ho
    have hkl := (List.getElem?_eq_some_iff.1 hr).1
    refine hb ⟨(h2 r (List.mem_of_getElem? hr)).1, (h2 r (List.mem_of_getElem? hr)).2, ?_⟩
    unfold mayFol
    rw [Bool.and_eq_true, decide_eq_true_eq, List.length_take, Nat.min_eq_left (by omega)]
    refine ⟨by omega, ?_⟩
    cases hg : (l.take k).getLast? with
    | none => rfl
    | some x =>
      have hx := hg
      rw [List.getLast?_eq_getElem?, List.length_take, Nat.min_eq_left (by omega)] at hx
      have hk0 : 0 < k := by
        rcases Nat.eq_zero_or_pos k with e | e
        · rw [e] at hx; simp at hx
        · exact e
      rw [List.getElem?_take_of_lt (by omega)] at hx
      obtain ⟨q1, rfl⟩ := List.getElem?_eq_some_iff.1 hx
      obtain ⟨q2, rfl⟩ := List.getElem?_eq_some_iff.1 hr
      exact (List.pairwise_iff_getElem.1 h3) (k - 1) k q1 q2 (by omega)
theorem WS.take {w : World} {a : Option Addr} {cap : Nat} {l : List Rw} (h : WS w (.slice a l.length cap) l) (k : Nat) (hk : k ≤ l.length) (cap' : Nat) : WS w (.slice a k cap') (l.take k) := by
  obtain ⟨a', c', e, h⟩ := h
  injection e with e1 e2 e3
  subst e1
  refine ⟨a, cap', by simp [hk], ?_⟩
  rcases h with rfl | ⟨b, off, rfl, hb, hat⟩
  · exact .inl (by simp)
  · refine .inr ⟨b, off, rfl, hb, fun i r hr => hat i r ?_⟩
    have hi := (List.getElem?_eq_some_iff.1 hr).1
    rw [List.length_take] at hi
    rwa [List.getElem?_take_of_lt (by omega)] at hr
end Go.Proofs.YtejgcflcckjlpaaGreatDoor
namespace Go.Proofs.YtejgcflcckjlpaaGreatDoor
open Go.RowKit
set_option linter.unusedVariables false
set_option maxRecDepth 100000

set_option maxHeartbeats 1600000 in
theorem rcheck_ok (agg bound : Int) (v : Value) (l : List Rw) (w : World) (h : WS w v l) (hls : ∀ r ∈ l, r.2.2.length ≤ 100000) (hcap : CapOk v) (hok0 : okRows agg bound l = true) :
    Calls Tryz.prog 20 #[.int .i64 agg, .int .i64 bound, v] w fun e w' => e = .returned (.int .i64 0) ∧ Below w.heap.size w w' := by
  have H1 := hidM (fun W => rway_any agg bound W)
  have HS := hidM h
  obtain ⟨a, cap, rfl, hsh⟩ := h
  obtain ⟨hw, hl, hkc, hri⟩ := okRows_parts hok0
  · rw [hw] at H1
    go_enter Tryz.func20, Tryz.ntmps20
    go_wp2_with (go_at_call 35; refine (H1.out _).mono ?_; rintro e W1 ⟨rfl, hb1⟩)
    go_loopw [15] (fun i wr => ∃ k : Nat, k ≤ l.length ∧ i = .int .i64 k ∧ OkTo agg bound l k ∧ Below w.heap.size w wr) (fun i _ => l.length - (intOf i).toNat)
    case atStart => exact ⟨0, by omega, rfl, OkTo.start _ _ _, hb1⟩
    case round =>
      clear hb1
      rename World => w0
      obtain ⟨k, hk, rfl, hok, hbel⟩ := hrel
      have hsz := hbel.size
      by_cases hlt : k < l.length
      · obtain ⟨⟨⟨ya, yb⟩, yn, yl⟩, hy⟩ := getSome hlt
        rcases hsh with rfl | ⟨b, off, rfl, hb, hat⟩
        · simp at hlt
        have hyl : yl.length ≤ 100000 := hls _ (List.mem_of_getElem? hy)
        obtain ⟨c0, c1, c2, s1, p1, c3, n1⟩ := (hat.below hbel hb) k _ hy
        simp only at c0 c1 c2 c3 n1
        obtain ⟨Wa, hWa⟩ : ∃ Wa : World, Wa = w0.alloc (.cells #[.int .i64 ya, .string yb, .int .i64 yn, .slice s1 yl.length p1] 47) := ⟨_, rfl⟩
        have hba : Below w0.heap.size w0 Wa := by rw [hWa]; exact (Below.refl _ _).alloc (Nat.le_refl _) _
        have B4 : Blk4 Wa w0.heap.size (.int .i64 ya) (.string yb) (.int .i64 yn) (.slice s1 yl.length p1) := by rw [hWa]; exact Blk4.new w0 _ _ _ _
        have HA := hidM hWa.symm
        have HR := hidM (show ∀ W, Below Wa.heap.size Wa W → W.cell? ⟨w0.heap.size, 0, none⟩ = some (.int .i64 ya) ∧ W.cell? ⟨w0.heap.size, 1, none⟩ = some (.string yb) ∧ W.cell? ⟨w0.heap.size, 2, none⟩ = some (.int .i64 yn) ∧ W.cell? ⟨w0.heap.size, 3, none⟩ = some (.slice s1 yl.length p1) ∧ Below Wa.heap.size Wa W from fun W hW =>
          ⟨(B4.below hW).cells.1, (B4.below hW).cells.2.1, (B4.below hW).cells.2.2.1, (B4.below hW).cells.2.2.2.1, hW⟩)
        have hbw : Below w.heap.size w Wa := hbel.trans (hba.mono hsz)
        have HC1 := hidM (fun W => kcheck_any (ya, yb) W)
        have HC2 := hidM (fun W (hW : Below Wa.heap.size Wa W) => check_any agg bound _ (yn, yl) W ⟨s1, p1, rfl, (n1.below hba).below hW⟩ hyl)
        have HC3 := hidM (fun W (hW : Below Wa.heap.size Wa W) => mayFollow_any (.slice (some ⟨b, off, none⟩) k cap) (l.take k) (ya, yb) W (WS.take (HS.out.below (nxt hbw hW)) k (by omega) cap) (by simp; omega))
        have HBW := hidM hbw
        have hkc' : k ≤ cap := Nat.le_trans hk hcap
        have hkl : k ≤ l.length := hk
        have HST := hidM (fun (h1 : yb.size ≤ 64) (h2 : chk agg bound (yn, yl) = true) (h3 : mayFol (l.take k) (ya, yb) = true) => hok.step hy h1 h2 h3)
        have hq : yb.size ≤ 64 ∧ chk agg bound (yn, yl) = true ∧ mayFol (l.take k) (ya, yb) = true := by
          by_cases h : yb.size ≤ 64 ∧ chk agg bound (yn, yl) = true ∧ mayFol (l.take k) (ya, yb) = true
          · exact h
          · have := hok.bad hy h
            rw [hok0] at this
            cases this
        obtain ⟨hq1, hq2, hq3⟩ := hq
        clear hWa hbel hat n1 hba hbw B4 hy hok hcap
        rw [if_pos (show (ya, yb).2.size ≤ 64 from hq1)] at HC1
        rw [hq2, show errC true = 0 from rfl] at HC2
        rw [hq3] at HC3
        have HO := hidM (HST.out hq1 hq2 hq3)
        clear hq1 hq2 hq3 HST hok0 hkc hri
        go_wp2_with fail
        rw [HA.out]
        go_region_held3 (fun W => W.cell? ⟨w0.heap.size, 0, none⟩ = some (.int .i64 ya) ∧ W.cell? ⟨w0.heap.size, 1, none⟩ = some (.string yb) ∧ W.cell? ⟨w0.heap.size, 2, none⟩ = some (.int .i64 yn) ∧ W.cell? ⟨w0.heap.size, 3, none⟩ = some (.slice s1 yl.length p1) ∧ Below Wa.heap.size Wa W)
          (first | exact HR.out _ (Below.refl _ _).drew | exact HR.out _ (nxt (Below.refl Wa.heap.size Wa).drew hb1) | exact HR.out _ (nxt (nxt (Below.refl Wa.heap.size Wa).drew hb1) hb2) | exact HR.out _ (nxt (nxt (nxt (Below.refl Wa.heap.size Wa).drew hb1) hb2) hb3))
          (first
            | (go_at_call 36; refine (HC1.out _).mono ?_; rintro e W1 ⟨rfl, hb1⟩)
            | (go_at_call 37; refine (HC2.out _ (‹_ ∧ _ ∧ _ ∧ _ ∧ Below Wa.heap.size Wa _›).2.2.2.2).mono ?_; rintro e W2 ⟨rfl, hb2⟩)
            | (go_at_call 38; refine (HC3.out _ (‹_ ∧ _ ∧ _ ∧ _ ∧ Below Wa.heap.size Wa _›).2.2.2.2).mono ?_; rintro e W3 ⟨rfl, hb3⟩))
        go_wp2
        go_roundw
        case rel => exact ⟨k + 1, by omega, by go_num, HO.out, nxt HBW.out (nxt (nxt (nxt (Below.refl Wa.heap.size Wa).drew hb1) hb2) hb3)⟩
        case measure => simp [intOf]; omega
      · have hlt' : l.length ≤ k := by omega
        go_wp2
        go_ret
        exact ⟨rfl, hbel⟩
end Go.Proofs.YtejgcflcckjlpaaGreatDoor
/- The bytes of rows; strings.Builder off the shelf; row.Bytes of rows that may be. -/
namespace Go.Proofs.YtejgcflcckjlpaaGreatDoor
open Go.RowKit
set_option linter.unusedVariables false

def rowBy (agg : Int) (r : Rw) : ByteArray := kBytes r.1 ++ cBytes agg r.2
def rowsBy (agg : Int) : List Rw → ByteArray
  | [] => ⟨#[]⟩
  | r :: l => rowBy agg r ++ rowsBy agg l
theorem rowsBy_snoc (agg : Int) (l : List Rw) (r : Rw) : rowsBy agg (l ++ [r]) = rowsBy agg l ++ rowBy agg r := by
  induction l with
  | nil =>
    show rowBy agg r ++ ⟨#[]⟩ = ⟨#[]⟩ ++ rowBy agg r
    apply ba_ext
    simp [ByteArray.data_append]
  | cons a l ih =>
    show rowBy agg a ++ rowsBy agg (l ++ [r]) = rowBy agg a ++ rowsBy agg l ++ rowBy agg r
    rw [ih]
    apply ba_ext
    simp [ByteArray.data_append]
theorem bytes_pos (n : Int) : 1 ≤ (bytesOf n).size := by
  rw [bytesOf_size]
  unfold grp
  split <;> simp
theorem rowBy_size {agg : Int} {r : Rw} (hk : r.1.2.size ≤ 64) (hc : r.2.2.length ≤ 32) : 1 ≤ (rowBy agg r).size ∧ (rowBy agg r).size ≤ 500 := by
  unfold rowBy kBytes
  simp only [ByteArray.size_append]
  have h1 := bytes_len r.1.1
  have h2 := bytes_len (r.1.2.size : Int)
  have h3 := cBytes_len (agg := agg) (c := r.2)
  have h4 := bytes_pos r.1.1
  omega
theorem rowsBy_size {agg : Int} : ∀ {l : List Rw}, (∀ r ∈ l, r.1.2.size ≤ 64 ∧ r.2.2.length ≤ 32) → (rowsBy agg l).size ≤ 500 * l.length
  | [], _ => Nat.le_refl 0
  | r :: l, h => by
    have h1 := rowsBy_size (agg := agg) (l := l) (fun x hx => h x (by simp [hx]))
    have h2 := rowBy_size (agg := agg) (h r (by simp)).1 (h r (by simp)).2
    show (rowBy agg r ++ rowsBy agg l).size ≤ _
    rw [ByteArray.size_append, List.length_cons]
    omega
theorem rowsBy_drop {agg : Int} {l : List Rw} {k : Nat} {r : Rw} (hr : l[k]? = some r) : rowsBy agg (l.drop k) = kBytes r.1 ++ (cBytes agg r.2 ++ rowsBy agg (l.drop (k + 1))) := by
  have : l.drop k = r :: l.drop (k + 1) := by
    obtain ⟨hk, rfl⟩ := List.getElem?_eq_some_iff.1 hr
    exact List.drop_eq_getElem_cons hk
  rw [this]
  show rowBy agg r ++ _ = _
  unfold rowBy
  apply ba_ext
  simp [ByteArray.data_append]
end Go.Proofs.YtejgcflcckjlpaaGreatDoor
namespace Go.Proofs.YtejgcflcckjlpaaGreatDoor
open Go.RowKit Go.Shelf
set_option linter.unusedVariables false
set_option maxRecDepth 100000

shelf_lay Lays.n169 Nm 169 at Tryz as Tryz.lays169
theorem Tryz.Builder_Extra_169 : Builder.Extra Tryz.prog Tryz.lays169_ren where
  sizeBuilder := by kernel_rfl
  liesBuilder := by kernel_rfl
  t5 := Tryz.underlying5
  a5 := Tryz.isAgg5
  z5 := Tryz.sizeOf5
  v5 := Tryz.zeroValue5
  infoByte := by kernel_rfl
  cellsByte := by kernel_rfl
  sizeByte := by kernel_rfl
  neB5 := by decide

/-- A Builder of the call's own at block b holds the bytes of s. -/
def Bld (B b : Nat) (s : ByteArray) (w : World) : Prop := Lib.IsBuilder 59 5 B b (Lib.strCells s) w
theorem owns_below {w w' : World} {base n size : Nat} {e : TypeId} {v : Value} {xs : List Value} (h : w.ownsRow base e size v n xs) (hb : Below w.heap.size w w') : w'.ownsRow base e size v n xs := by
  refine ⟨h.1, ?_⟩
  rcases h.2 with ⟨h1, h2⟩ | ⟨g, cap, cur, h1, h2, h3, h4⟩
  · exact .inl ⟨h1, h2⟩
  · exact .inr ⟨g, cap, cur, h1, h2, by rw [hb.block g (Array.getElem?_eq_some_iff.1 h3).1]; exact h3, h4⟩
theorem bat_below {T e : TypeId} {B b : Nat} {p : Value} {bs : List Value} {w w' : World} (h : Lib.BuilderAt T e B b p bs w) (hb : Below w.heap.size w w') : Lib.BuilderAt T e B b p bs w' := by
  have hlt := h.lt
  obtain ⟨h1, v, h2, h3, h4⟩ := h
  exact ⟨h1, v, by rw [hb.block b hlt]; exact h2, owns_below h3 hb, h4⟩
theorem Bld.below {B b : Nat} {s : ByteArray} {w w' : World} (h : Bld B b s w) (hb : Below w.heap.size w w') : Bld B b s w' := by
  rcases h with h | h
  · exact .inl (bat_below h hb)
  · exact .inr (bat_below h hb)
theorem Bld.new (w : World) : Bld w.heap.size w.heap.size ⟨#[]⟩ (w.alloc (.cells #[.pointer none, .slice none 0 0] 59)) := Lib.fresh_isBuilder _ _ w

/-! The panic of copyCheck is not in this program's text, so the shelf's own laying of WriteString does not serve here: walked. -/
theorem Tryz.sizeBuilder : (Tryz.prog.info? 59).map (·.size) = some 2 := by kernel_rfl
theorem Tryz.liesBuilder : liesAt Tryz.prog Tryz.prog.depth 59 (2 / Tryz.prog.cellsOf 59) 0 59 1 = true := by kernel_rfl
theorem Tryz.infoByte : (Tryz.prog.info? 5).map (fun i => (i.zero, i.size, i.bytes)) = some (some (.int .u8 0), 1, 1) := by kernel_rfl
set_option maxRecDepth 100000 in
theorem bcheck_used (b : Nat) (w : World) (h0 : w.cell? ⟨b, 0, none⟩ = some (.pointer (some ⟨b, 0, none⟩))) :
    Calls Tryz.prog 42 #[.pointer (some ⟨b, 0, none⟩)] w fun e w' => e = .returned (.tuple #[]) ∧ w' = w := by
  obtain ⟨j, hj, _⟩ := Option.map_eq_some_iff.1 Tryz.sizeBuilder
  go_enter Tryz.func42, Tryz.ntmps42
  go_wp2
  rw [Lib.run_neq_ptr_same w _ Tryz.underlying56 hj]
  go_wp2
  go_end0
  exact ⟨rfl, rfl⟩
set_option maxRecDepth 100000 in
theorem bcheck_new (b : Nat) (w : World) (h0 : w.cell? ⟨b, 0, none⟩ = some (.pointer none)) (hsh : w.shape? b = some (59, 2)) (hfz : w.frozen? ⟨b, 0, none⟩ = false) :
    Calls Tryz.prog 42 #[.pointer (some ⟨b, 0, none⟩)] w fun e w' => e = .returned (.tuple #[]) ∧ w' = w.setCell ⟨b, 0, none⟩ (.pointer (some ⟨b, 0, none⟩)) := by
  obtain ⟨j, hj, hjs⟩ := Option.map_eq_some_iff.1 Tryz.sizeBuilder
  have hto := Lib.run_to_unsafe w ⟨b, 0, none⟩ Tryz.underlying56 Tryz.underlying100 hj (by rw [hjs]; decide) hsh (Nat.zero_lt_succ 1)
  have hfrom := Lib.run_from_unsafe w ⟨b, 0, none⟩ Tryz.underlying100 Tryz.underlying56 hj hsh Tryz.liesBuilder
  go_enter Tryz.func42, Tryz.ntmps42
  go_wp2
  rw [run_callFunc_extern Tryz.func55 (by kernel_rfl) (by kernel_rfl) (by kernel_rfl) (e := Extern.AbiNoEscape.same) (by kernel_rfl), Lib.run_noEscape, Result.andThen, Oper.upon_value]
  go_wp2
  go_end0
  exact ⟨rfl, rfl⟩
/-- Behind copyCheck the Builder holds its own address. -/
theorem bcheck_any (B b : Nat) (s : ByteArray) (w : World) (h : Bld B b s w) :
    Calls Tryz.prog 42 #[.pointer (some ⟨b, 0, none⟩)] w fun e w' => e = .returned (.tuple #[]) ∧ Lib.BuilderAt 59 5 B b (.pointer (some ⟨b, 0, none⟩)) (Lib.strCells s) w' ∧ Below B w w' := by
  rcases h with h | h
  · exact (bcheck_new b w h.cell0 h.shape h.frozen0).mono fun e w' ⟨he, hw⟩ => ⟨he, by rw [hw]; exact h.used _, by rw [hw]; exact (Below.refl B w).setCell (p := ⟨b, 0, none⟩) h.1 _⟩
  · exact (bcheck_used b w h.cell0).mono fun e w' ⟨he, hw⟩ => ⟨he, by rw [hw]; exact h, by rw [hw]; exact Below.refl B _⟩
set_option maxRecDepth 100000 in
set_option maxHeartbeats 800000 in
theorem bwrite_any (B b : Nat) (s t : ByteArray) (w : World) (h : Bld B b s w) (hlen : s.size + t.size ≤ 140737488355328) (hBw : B ≤ w.heap.size) :
    Calls Tryz.prog 23 #[.pointer (some ⟨b, 0, none⟩), .string t] w fun e w' => e = .returned (.tuple #[.int .i64 t.size, .nilIface]) ∧ Bld B b (s ++ t) w' ∧ Below B w w' := by
  obtain ⟨i0, hi, hz0, hz1, hz2⟩ := info_parts Tryz.infoByte
  have hst : Lib.strCells (s ++ t) = Lib.strCells s ++ Lib.strCells t := by simp [Lib.strCells, ByteArray.data_append]
  go_enter Tryz.func23, Tryz.ntmps23
  go_wp2_with fail
  refine (bcheck_any B b s w h).mono ?_
  rintro e w1 ⟨rfl, hat, hb1⟩
  have hlt := hat.lt
  have c0 := hat.cell0
  obtain ⟨hB, v, hbk, hown, hne⟩ := hat
  have c1 : w1.cell? ⟨b, 1, none⟩ = some v := by rw [Lib.cell_of_heap hbk]; rfl
  have hz := Nat.le_trans hBw hb1.size
  have hls := Lib.strCells_length s
  go_wp2_with (at_builtin; refine Lib.wpList_append_own_string _ rfl _ _ 57 9 rfl B 5 i0 Tryz.underlying57 Tryz.underlying9 hi hz0 hz1 hz2 _ _ _ rfl hown t rfl ?c3 ?c4 ?c5 ?_)
  case c3 => unfold maxLen; omega
  case c4 => omega
  case c5 => omega
  intro v2 w2 hown2 hgrow _
  have hb2 : w2.heap[b]? = some (.cells #[.pointer (some ⟨b, 0, none⟩), v] 59 (0, 0)) := (hgrow.block b hlt (fun e => hne e.symm)).trans hbk
  have d0 : w2.cell? ⟨b, 0, none⟩ = some (.pointer (some ⟨b, 0, none⟩)) := by rw [Lib.cell_of_heap hb2]; rfl
  have d1 : w2.cell? ⟨b, 1, none⟩ = some v := by rw [Lib.cell_of_heap hb2]; rfl
  have f1 : w2.frozen? ⟨b, 1, none⟩ = false := Lib.frozen_of_heap hb2 1
  have hput : Bld B b (s ++ t) (w2.setCell ⟨b, 1, none⟩ v2) := by
    refine .inr (Lib.BuilderAt.put hB hb2 ?_ (by decide))
    rw [hst]
    simpa [Lib.strCells_length] using hown2
  have hbel := (hb1.grown hgrow hz (fun k hk => (hown.lt k hk).1)).setCell (p := ⟨b, 1, none⟩) hB v2
  obtain ⟨ao, n', cap, rfl⟩ : ∃ ao n' cap, v2 = .slice ao n' cap := by
    rcases hown2.2 with ⟨hv, _⟩ | ⟨g, cap, cur, hv, _⟩ <;> exact ⟨_, _, _, hv⟩
  go_wp2
  go_ret2
  exact ⟨rfl, hput, hbel⟩
theorem bstring_any (B b : Nat) (s : ByteArray) (w : World) (h : Bld B b s w) (hBw : B ≤ w.heap.size) :
    Calls Tryz.prog 25 #[.pointer (some ⟨b, 0, none⟩)] w fun e w' => e = .returned (.string s) ∧ Below B w w' := by
  have h' : Lib.IsBuilder 59 5 B b (Lib.byteCells s.data.toList) w := h
  refine (Any.Builder_String_any Tryz.lays169 Tryz.Builder_Extra_169 B b s.data.toList w h' hBw).mono ?_
  rintro e w' ⟨rfl, hb⟩
  exact ⟨by simp, hb⟩
end Go.Proofs.YtejgcflcckjlpaaGreatDoor
namespace Go.Proofs.YtejgcflcckjlpaaGreatDoor
open Go.RowKit
set_option linter.unusedVariables false
set_option maxRecDepth 100000

/-- What the rows of a fold are. -/
structure FineR (agg bound : Int) (l : List Rw) : Prop where
  ok : okRows agg bound l = true
  cell : ∀ r ∈ l, OkC agg bound r.2
  key : ∀ r ∈ l, Good r.1
theorem FineR.each {agg bound : Int} {l : List Rw} (h : FineR agg bound l) {r : Rw} (hr : r ∈ l) : r.1.2.size ≤ 64 ∧ OkC agg bound r.2 ∧ Good r.1 := ⟨((okRows_parts h.ok).2.2.1 r hr).1, h.cell r hr, h.key r hr⟩
theorem FineR.len {agg bound : Int} {l : List Rw} (h : FineR agg bound l) : l.length ≤ 1536 := (okRows_parts h.ok).2.1
theorem FineR.sz {agg bound : Int} {l : List Rw} (h : FineR agg bound l) {m : List Rw} (hm : ∀ r ∈ m, r ∈ l) (hl : m.length ≤ l.length) : (rowsBy agg m).size ≤ 800000 := by
  have := rowsBy_size (agg := agg) (l := m) (fun r hr => ⟨(h.each (hm r hr)).1, (h.each (hm r hr)).2.1.2.2⟩)
  have := h.len
  omega
set_option maxHeartbeats 1600000 in
theorem rbytes_ok (agg bound : Int) (v : Value) (l : List Rw) (w : World) (h : WS w v l) (hcap : CapOk v) (hf : FineR agg bound l) :
    Calls Tryz.prog 21 #[.int .i64 agg, .int .i64 bound, v] w (ByR w (rowsBy agg l, 0)) := by
  have H1 := hidM (rcheck_ok agg bound v l w h (fun r hr => by have := (hf.cell r hr).2.2; omega) hcap hf.ok)
  obtain ⟨a, cap, rfl, hsh⟩ := h
  have hlen := hf.len
  go_enter Tryz.func21, Tryz.ntmps21
  go_wp2_with (go_at_call 20; refine H1.out.mono ?_; rintro e W1 ⟨rfl, hb1⟩)
  have hbd := Bld.new W1
  have hb2 := hb1.alloc hb1.size (.cells #[.pointer none, .slice none 0 0] 59)
  have hsB : w.heap.size ≤ W1.heap.size := hb1.size
  generalize hWB : W1.alloc (.cells #[.pointer none, .slice none 0 0] 59) = W2 at hbd hb2 ⊢
  have hB2 : W1.heap.size ≤ W2.heap.size := by rw [← hWB]; simp
  clear hWB hb1
  generalize W1.heap.size = B at hbd hsB hB2 ⊢
  clear W1
  go_loopw [25] (fun i wr => ∃ k : Nat, k ≤ l.length ∧ i = .int .i64 k ∧ Bld B B (rowsBy agg (l.take k)) wr ∧ Below w.heap.size w wr ∧ B ≤ wr.heap.size) (fun i _ => l.length - (intOf i).toNat)
  case atStart => exact ⟨0, by omega, rfl, hbd, hb2, hB2⟩
  case round =>
    clear hbd hb2 hB2
    rename World => w0
    obtain ⟨k, hk, rfl, hbd, hbel, hBw⟩ := hrel
    have hsz := hbel.size
    by_cases hlt : k < l.length
    · obtain ⟨⟨⟨ya, yb⟩, yn, yl⟩, hy⟩ := getSome hlt
      rcases hsh with rfl | ⟨b, off, rfl, hb, hat⟩
      · simp at hlt
      obtain ⟨hq1, hq2, hq3⟩ := hf.each (List.mem_of_getElem? hy)
      simp only at hq1 hq2 hq3
      obtain ⟨c0, c1, c2, s1, p1, c3, n1⟩ := (hat.below hbel hb) k _ hy
      simp only at c0 c1 c2 c3 n1
      obtain ⟨Wa, hWa⟩ : ∃ Wa : World, Wa = w0.alloc (.cells #[.int .i64 ya, .string yb, .int .i64 yn, .slice s1 yl.length p1] 47) := ⟨_, rfl⟩
      have hba : Below w0.heap.size w0 Wa := by rw [hWa]; exact (Below.refl _ _).alloc (Nat.le_refl _) _
      have B4 : Blk4 Wa w0.heap.size (.int .i64 ya) (.string yb) (.int .i64 yn) (.slice s1 yl.length p1) := by rw [hWa]; exact Blk4.new w0 _ _ _ _
      obtain ⟨a0, a1, a2, a3, -⟩ := B4.cells
      have HA := hidM hWa.symm
      have HC1 := hidM (kbytes_any (ya, yb) Wa hq1 hq3.1.1 hq3.1.2)
      have HC2 := hidM (fun W (hW : Below Wa.heap.size Wa W) => cbytes_any agg bound _ (yn, yl) W ⟨s1, p1, rfl, (n1.below hba).below hW⟩ hq2.2.1 (by have h : yl.length ≤ 32 := hq2.2.2; show yl.length ≤ 50000; omega))
      rw [bytesR_of hq2.1] at HC2
      have hstep : rowsBy agg (l.take (k + 1)) = rowsBy agg (l.take k) ++ kBytes (ya, yb) ++ cBytes agg (yn, yl) := by
        rw [List.take_add_one, hy]
        show rowsBy agg (l.take k ++ [((ya, yb), (yn, yl))]) = _
        rw [rowsBy_snoc]
        unfold rowBy
        apply ba_ext
        simp [ByteArray.data_append]
      have hs1 := hf.sz (m := l.take (k + 1)) (fun r hr => List.mem_of_mem_take hr) (by simp; omega)
      rw [hstep] at hs1
      simp only [ByteArray.size_append] at hs1
      have HB4 := hidM B4
      have HBD := hidM (hbd.below hba)
      have HBW : Hid (Below w.heap.size w Wa) := hbel.trans (hba.mono hsz)
      have hBa : B ≤ Wa.heap.size := Nat.le_trans hBw hba.size
      have HST := hidM hstep
      generalize kBytes (ya, yb) = X at *
      generalize cBytes agg (yn, yl) = Y at *
      generalize rowsBy agg (l.take k) = Z at *
      clear hWa hbel hat n1 hba B4 hy hbd hstep hq1 hq2 hq3
      go_wp2_with (first
        | (go_at_call 32; rw [HA.out]; refine HC1.out.mono ?_; rintro e W3 ⟨rfl, hb3⟩; obtain ⟨d0, d1, d2, d3, -⟩ := (HB4.out.below hb3).cells)
        | (go_at_call 39; refine (HC2.out _ hb3).mono ?_; rintro e W4 ⟨rfl, hb4⟩; have hb4' := nxt hb3 hb4; have HD1 := hidM (bwrite_any B B Z X W4 (HBD.out.below hb4') (by omega) (Nat.le_trans hBa hb4'.size)))
        | (go_at_call 23; refine HD1.out.mono ?_; rintro e W5 ⟨rfl, hbd5, hb5⟩; have HD1 := hidM (bwrite_any B B (Z ++ X) Y W5 hbd5 (by simp only [ByteArray.size_append]; omega) (Nat.le_trans (Nat.le_trans hBa hb4'.size) hb5.size)); have HB5 := hidM ((HBW.out.trans (hb4'.mono HBW.out.size)).trans (hb5.mono hsB)); have HS5 := hidM hb5; clear hbd5 hb5))
      refine HD1.out.mono ?_
      rintro e W6 ⟨rfl, hbd6, hb6⟩
      have HF := hidM (show Bld B B (rowsBy agg (l.take (k + 1))) W6 ∧ Below w.heap.size w W6 ∧ B ≤ W6.heap.size from ⟨by rw [HST.out]; exact hbd6, HB5.out.trans (hb6.mono hsB), Nat.le_trans (Nat.le_trans (Nat.le_trans hBa hb4'.size) HS5.out.size) hb6.size⟩)
      clear hbd6 hb6
      go_wp2
      go_roundw
      case rel => exact ⟨k + 1, by omega, by go_num, HF.out⟩
      case measure => simp [intOf]; omega
    · have hlt' : l.length ≤ k := by omega
      rw [List.take_of_length_le hlt'] at hbd
      have HC := hidM (bstring_any B B _ w0 hbd hBw)
      have HBE := hidM hbel
      go_wp2_with (go_at_call 25; refine HC.out.mono ?_; rintro e W3 ⟨rfl, hb3⟩)
      go_ret2
      exact ⟨rfl, HBE.out.trans (hb3.mono hsB)⟩
end Go.Proofs.YtejgcflcckjlpaaGreatDoor
