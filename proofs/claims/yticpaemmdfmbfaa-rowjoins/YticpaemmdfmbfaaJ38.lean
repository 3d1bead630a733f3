/- Texts laid together: WApp, WEq. -/
import Derived.Test.YticpaemmdfmbfaaJ33
import Derived.Test.YticpaemmdfmbfaaJ37
import Derived.Test.YticpaemmdfmbfaaJ25
import Derived.Test.YticpaemmdfmbfaaJ29
import Derived.Deep.RegionHeld3
/- Rows appended to rows; a row copied; rows compared. -/
namespace Go.Proofs.Yticpaemmdfmbfaa
open Go.RowKit
set_option linter.unusedVariables false
set_option maxRecDepth 100000

/-- An append whose run is known, at the list of a plain region's operations. -/
theorem wpList_append_run {P : Program} (w : World) {ops : Array Oper} {rest : List Oper} {o : Oper} {a : Act} {Q : Exit → Act → World → Prop} (hgd : o.guard = none) (s x : Operand) (t : TypeId)
    (ho : o.op = .call { callee := .builtin .append, args := #[s, x], argTypes := #[t, t] }) (v u v' : Value) (w' : World) (hs : a.eval s = v) (hx : a.eval x = u)
    (hr : (Builtin.append_ #[t, t] o.type #[v, u]).run P w = .ok v' w') (h : wpList P ops Q rest (a.put o.dst v') w') : wpList P ops Q (o :: rest) a w := by
  refine wpList_plain hgd fun K hK => ?_
  unfold Oper.wp execOp
  simp only [ho, resolve, invoke, builtin, Sem.run_bind, Sem.run_pure, Result.andThen_ok, List.map_toArray, List.map_cons, List.map_nil, hs, hx, hr]
  exact hK _ _ h
/-- The slice v holds the rows as they lie. -/
def XS (w : World) (v : Value) (ys : List Raw) : Prop := ∃ a cap, v = .slice a ys.length cap ∧ (ys = [] ∨ ∃ b off, a = some ⟨b, off, none⟩ ∧ b < w.heap.size ∧ ∀ (j : Nat) (u : Value), (flatW ys)[j]? = some u → w.cell? ⟨b, off + j, none⟩ = some u)
theorem XS.below {w w' : World} {v : Value} {ys : List Raw} (h : XS w v ys) (hb : Below w.heap.size w w') : XS w' v ys := by
  obtain ⟨a, cap, rfl, h⟩ := h
  refine ⟨a, cap, rfl, ?_⟩
  rcases h with h | ⟨b, off, rfl, hlt, h⟩
  · exact .inl h
  · exact .inr ⟨b, off, rfl, Nat.lt_of_lt_of_le hlt hb.size, fun j u hj => (hb.cell (p := ⟨b, _, none⟩) hlt).trans (h j u hj)⟩
theorem append_xs {W : World} {base : Nat} {v u : Value} {l m : List Raw} (ty : TypeId) (hown : OwnX W base v l) (hns : XS W u m) (hl : l.length + m.length ≤ 1000000) (hb : base ≤ W.heap.size) :
    ∃ v' W', (Builtin.append_ #[28, 28] ty #[v, u]).run Try.prog W = .ok v' W' ∧ OwnX W' base v' (l ++ m) ∧ W.grownBy W' v.ownBlock ∧ (v'.ownBlock = v.ownBlock ∨ v'.ownBlock = some W.heap.size) := by
  obtain ⟨i0, hi, hz0, hz1, hz2⟩ := info_parts Try.infoRow
  obtain ⟨a, cap, rfl, h⟩ := hns
  have go : ∀ (ad : Addr) (news : List Value), news = flatW m → (∀ j u, news[j]? = some u → W.cell? (ad.add j) = some u) → ∃ v' W', (Builtin.append_ #[28, 28] ty #[v, .slice (some ad) m.length cap]).run Try.prog W = .ok v' W' ∧ OwnX W' base v' (l ++ m) ∧ W.grownBy W' v.ownBlock ∧ (v'.ownBlock = v.ownBlock ∨ v'.ownBlock = some W.heap.size) := by
    intro ad news hn hc
    obtain ⟨v', w', hr, h2, h3, _, h5⟩ := run_append_own_at (P := Try.prog) W base 28 ty 67 i0 _ 4 56 Try.underlying28 hi hz0 hz1 hz2 rfl (by decide) v l.length (flatW l) hown ad m.length cap news (by subst hn; exact flatW_len m) hc (by subst hn; exact flatW_cell m) (by unfold maxLen; omega) (by omega) hb
    refine ⟨v', w', hr, ?_, h3, h5⟩
    subst hn
    unfold OwnX
    rw [flatW_app, List.length_append]
    exact h2
  rcases h with rfl | ⟨b, off, rfl, hb, hat⟩
  · cases a with
    | none =>
      refine ⟨v, W, ?_, by rw [List.append_nil]; exact hown, World.grownBy.refl _ _, .inl rfl⟩
      rcases hown.2 with ⟨rfl, h0⟩ | ⟨g, cap', cur, rfl, _, _, hnc, _⟩
      · simp [Builtin.append_, run_underlying Try.underlying28, sizeOf, typeInfo, hi, Builtin.lenOf, Builtin.firstCells]
      · simp [Builtin.append_, run_underlying Try.underlying28, sizeOf, typeInfo, hi, Builtin.lenOf, Builtin.firstCells, hnc, storeCells]
    | some ad => exact go ad [] rfl (fun j u hj => by simp at hj)
  · refine go ⟨b, off, none⟩ _ rfl fun j u hj => ?_
    rw [Addr.add_lit]
    exact hat j u hj
/-- A part of what the call owns. -/
theorem OwnX.cell {w : World} {base g cap : Nat} {n : Nat} {xs : List Raw} (h : OwnX w base (.slice (some ⟨g, 0, none⟩) n cap) xs) : g < w.heap.size ∧ n = xs.length ∧ xs.length ≤ cap ∧ ∀ (j : Nat) (u : Value), (flatW xs)[j]? = some u → w.cell? ⟨g, j, none⟩ = some u := by
  rcases h.2 with ⟨h1, _⟩ | ⟨g', cap', cur, h1, _, hb, hn, _, hs, ht⟩
  · cases h1
  · injection h1 with e1 e2 e3
    injection e1 with e1
    injection e1 with e1
    subst e1 e2 e3
    refine ⟨(Array.getElem?_eq_some_iff.1 hb).1, rfl, hn, fun j u hj => ?_⟩
    have hjl : j < xs.length * 4 := by have := (List.getElem?_eq_some_iff.1 hj).1; rwa [flatW_len] at this
    rw [← ht, List.getElem?_take_of_lt hjl] at hj
    simp only [World.cell?, hb]
    simpa using hj
theorem flatW_take (xs : List Raw) (p : Nat) : flatW (xs.take p) = (flatW xs).take (p * 4) := by
  induction xs generalizing p with
  | nil => simp
  | cons a l ih =>
    cases p with
    | zero => simp
    | succ p =>
      rw [List.take_succ_cons]
      show encW a ++ flatW (l.take p) = (encW a ++ flatW l).take ((p + 1) * 4)
      have e1 : (p + 1) * 4 = (encW a).length + p * 4 := by simp [encW]; omega
      rw [ih, e1, List.take_length_add_append]
theorem flatW_drop (xs : List Raw) (p : Nat) : flatW (xs.drop p) = (flatW xs).drop (p * 4) := by
  induction xs generalizing p with
  | nil => simp
  | cons a l ih =>
    cases p with
    | zero => simp
    | succ p =>
      rw [List.drop_succ_cons]
      show flatW (l.drop p) = (encW a ++ flatW l).drop ((p + 1) * 4)
      have e1 : (p + 1) * 4 = (encW a).length + p * 4 := by simp [encW]; omega
      rw [ih, e1, List.drop_length_add_append]
theorem XS.take {w : World} {base g cap n : Nat} {xs : List Raw} (h : OwnX w base (.slice (some ⟨g, 0, none⟩) n cap) xs) (p : Nat) (hp : p ≤ xs.length) (cap' : Nat) : XS w (.slice (some ⟨g, 0, none⟩) p cap') (xs.take p) := by
  obtain ⟨h1, -, -, h2⟩ := h.cell
  refine ⟨_, cap', by simp [hp], .inr ⟨g, 0, rfl, h1, fun j u hj => ?_⟩⟩
  rw [flatW_take] at hj
  rw [Nat.zero_add]
  exact h2 j u (by
    have hlt := (List.getElem?_eq_some_iff.1 hj).1
    rw [List.length_take] at hlt
    rwa [List.getElem?_take_of_lt (by omega)] at hj)
theorem XS.drop {w : World} {base g cap n : Nat} {xs : List Raw} (h : OwnX w base (.slice (some ⟨g, 0, none⟩) n cap) xs) (p : Nat) (hp : p ≤ xs.length) (cap' : Nat) : XS w (.slice (some ⟨g, p * 4, none⟩) (xs.length - p) cap') (xs.drop p) := by
  obtain ⟨h1, -, -, h2⟩ := h.cell
  refine ⟨_, cap', by simp, .inr ⟨g, p * 4, rfl, h1, fun j u hj => ?_⟩⟩
  rw [flatW_drop, List.getElem?_drop] at hj
  exact h2 _ u hj
theorem XS.new (w : World) (x : Raw) : XS (w.alloc (.cells #[.int .i64 x.1.1, .string x.1.2, .int .i64 x.2.1, slV x.2.2] 67)) (.slice (some ⟨w.heap.size, 0, none⟩) 1 1) [x] := by
  refine ⟨_, 1, rfl, .inr ⟨w.heap.size, 0, rfl, by simp, fun j u hj => ?_⟩⟩
  have := cell_row_new w x.1.1 x.1.2 x.2.1 (slV x.2.2) 67 j u hj
  rwa [Addr.add_lit] at this
theorem IsW.below {w w' : World} {base : Nat} {x : Raw} {r : Rw} (h : IsW w base x r) (hb : Below w.heap.size w w') : IsW w' base x r := h.keep (.below hb)
theorem loadRow {W : World} {b o : Nat} {a : Int} {t : ByteArray} {n : Int} {v : Value} (h0 : W.cell? ⟨b, o, none⟩ = some (.int .i64 a)) (h1 : W.cell? ⟨b, o + 1, none⟩ = some (.string t)) (h2 : W.cell? ⟨b, o + 2, none⟩ = some (.int .i64 n)) (h3 : W.cell? ⟨b, o + 3, none⟩ = some v) :
    (loadVar 67 ⟨b, o, none⟩).run Try.prog W = .ok (.agg #[.int .i64 a, .string t, .int .i64 n, v]) W := by
  have a30 := Try.isAgg67
  have z30 := Try.sizeOf67
  have hc := run_loadCells_list (P := Try.prog) W ⟨b, o, none⟩ [.int .i64 a, .string t, .int .i64 n, v] (fun j u hj => by
    match j, hj with
    | 0, hj => simp at hj; subst hj; simpa [Addr.add] using h0
    | 1, hj => simp at hj; subst hj; simpa [Addr.add] using h1
    | 2, hj => simp at hj; subst hj; simpa [Addr.add] using h2
    | 3, hj => simp at hj; subst hj; simpa [Addr.add] using h3)
  simp [loadVar, a30, z30]
  have hc' : (loadCells ⟨b, o, none⟩ 4).run Try.prog W = .ok #[.int .i64 a, .string t, .int .i64 n, v] W := hc
  rw [hc']
  rfl
/-- A block of four cells. -/
def Blk4 (W : World) (b : Nat) (x0 x1 x2 x3 : Value) : Prop := W.heap[b]? = some (.cells #[x0, x1, x2, x3] 67 (0, 0))
theorem Blk4.lt {W : World} {b : Nat} {x0 x1 x2 x3 : Value} (h : Blk4 W b x0 x1 x2 x3) : b < W.heap.size := (Array.getElem?_eq_some_iff.1 h).1
theorem Blk4.new (W : World) (x0 x1 x2 x3 : Value) : Blk4 (W.alloc (.cells #[x0, x1, x2, x3] 67)) W.heap.size x0 x1 x2 x3 := heap_alloc_new W _
theorem Blk4.below {W W' : World} {b : Nat} {x0 x1 x2 x3 : Value} (h : Blk4 W b x0 x1 x2 x3) (hb : Below W.heap.size W W') : Blk4 W' b x0 x1 x2 x3 := by unfold Blk4; rw [hb.block b h.lt]; exact h
theorem Blk4.cells {W : World} {b : Nat} {x0 x1 x2 x3 : Value} (h : Blk4 W b x0 x1 x2 x3) : W.cell? ⟨b, 0, none⟩ = some x0 ∧ W.cell? ⟨b, 1, none⟩ = some x1 ∧ W.cell? ⟨b, 2, none⟩ = some x2 ∧ W.cell? ⟨b, 3, none⟩ = some x3 ∧ W.frozen? ⟨b, 0, none⟩ = false ∧ W.frozen? ⟨b, 1, none⟩ = false ∧ W.frozen? ⟨b, 2, none⟩ = false ∧ W.frozen? ⟨b, 3, none⟩ = false := by
  unfold Blk4 at h
  refine ⟨?_, ?_, ?_, ?_, ?_, ?_, ?_, ?_⟩ <;> simp [World.cell?, World.frozen?, h]
theorem Blk4.set0 {W : World} {b : Nat} {x0 x1 x2 x3 : Value} (h : Blk4 W b x0 x1 x2 x3) (u : Value) : Blk4 (W.setCell ⟨b, 0, none⟩ u) b u x1 x2 x3 := by
  unfold Blk4 at h ⊢
  simp [World.setCell, Array.getElem?_modify, h]
theorem Blk4.set1 {W : World} {b : Nat} {x0 x1 x2 x3 : Value} (h : Blk4 W b x0 x1 x2 x3) (u : Value) : Blk4 (W.setCell ⟨b, 1, none⟩ u) b x0 u x2 x3 := by
  unfold Blk4 at h ⊢
  simp [World.setCell, Array.getElem?_modify, h]
theorem Blk4.set2 {W : World} {b : Nat} {x0 x1 x2 x3 : Value} (h : Blk4 W b x0 x1 x2 x3) (u : Value) : Blk4 (W.setCell ⟨b, 2, none⟩ u) b x0 x1 u x3 := by
  unfold Blk4 at h ⊢
  simp [World.setCell, Array.getElem?_modify, h]
theorem Blk4.set3 {W : World} {b : Nat} {x0 x1 x2 x3 : Value} (h : Blk4 W b x0 x1 x2 x3) (u : Value) : Blk4 (W.setCell ⟨b, 3, none⟩ u) b x0 x1 x2 u := by
  unfold Blk4 at h ⊢
  simp [World.setCell, Array.getElem?_modify, h]
theorem Blk4.other {W : World} {b b' o : Nat} {x0 x1 x2 x3 u : Value} (h : Blk4 W b x0 x1 x2 x3) (hne : b ≠ b') : Blk4 (W.setCell ⟨b', o, none⟩ u) b x0 x1 x2 x3 := by
  unfold Blk4 at h ⊢
  rw [Below.heap_setCell _ _ _ _ (by show b ≠ b'; exact hne)]
  exact h
theorem Blk4.load {W : World} {b : Nat} {a : Int} {t : ByteArray} {n : Int} {v : Value} (h : Blk4 W b (.int .i64 a) (.string t) (.int .i64 n) v) : (loadVar 67 ⟨b, 0, none⟩).run Try.prog W = .ok (.agg #[.int .i64 a, .string t, .int .i64 n, v]) W := loadRow h.cells.1 h.cells.2.1 h.cells.2.2.1 h.cells.2.2.2.1
set_option maxHeartbeats 400000 in
/-- A row copied. -/
theorem copyRow_any (k : Ky) (n : Int) (l : List Int) (a : Option Addr) (cap : Nat) (w : World) (h : NS w (.slice a l.length cap) l) (hl : l.length ≤ 100000) :
    Calls Try.prog 56 #[.agg #[.int .i64 k.1, .string k.2, .int .i64 n, .slice a l.length cap]] w fun e w' => (∃ s : Sl, e = .returned (.agg #[.int .i64 k.1, .string k.2, .int .i64 n, slV s]) ∧ OwnL w' w.heap.size (slV s) l) ∧ Below w.heap.size w w' := by
  obtain ⟨ka, kb⟩ := k
  have H := hidM (fun W (hW : Below w.heap.size w W) => copycell_any _ (n, l) W ⟨a, cap, rfl, h.below hW⟩ hl)
  simp only
  have st : ∀ (W : World) (o : Obj), Below W.heap.size W (W.alloc o) := fun W o => (Below.refl _ _).alloc (Nat.le_refl _) _
  obtain ⟨W3, hW3⟩ : ∃ W3 : World, W3 = ((w.alloc (.cells #[.int .i64 ka, .string kb, .int .i64 n, .slice a l.length cap] 67)).alloc (.cells #[.int .i64 0, .string ⟨#[]⟩, .int .i64 0, .slice none 0 0] 67)).alloc (.cells #[.int .i64 ka, .string kb, .int .i64 n, .slice a l.length cap] 67) := ⟨_, rfl⟩
  have hb3 : Below w.heap.size w W3 := by rw [hW3]; exact nxt (nxt (st _ _) (st _ _)) (st _ _)
  have hs3 : W3.heap.size = w.heap.size + 3 := by rw [hW3]; simp
  have B1 : Blk4 W3 (w.heap.size + 1) (.int .i64 0) (.string ⟨#[]⟩) (.int .i64 0) (.slice none 0 0) := by
    have := (Blk4.new (w.alloc (.cells #[.int .i64 ka, .string kb, .int .i64 n, .slice a l.length cap] 67)) (.int .i64 0) (.string ⟨#[]⟩) (.int .i64 0) (.slice none 0 0)).below (st _ (.cells #[.int .i64 ka, .string kb, .int .i64 n, .slice a l.length cap] 67))
    rw [hW3]
    simpa using this
  have B2 : Blk4 W3 (w.heap.size + 2) (.int .i64 ka) (.string kb) (.int .i64 n) (.slice a l.length cap) := by
    have := Blk4.new ((w.alloc (.cells #[.int .i64 ka, .string kb, .int .i64 n, .slice a l.length cap] 67)).alloc (.cells #[.int .i64 0, .string ⟨#[]⟩, .int .i64 0, .slice none 0 0] 67)) (.int .i64 ka) (.string kb) (.int .i64 n) (.slice a l.length cap)
    rw [hW3]
    simpa using this
  have HW := hidM hW3.symm
  have HB := hidM hb3
  have HB1 := hidM B1
  have HB2 := hidM B2
  clear hW3 B1 B2 st
  go_enter Try.func56, Try.ntmps56
  go_wp2_with (go_at_call 73; rw [HW.out]; refine (H.out _ HB.out).mono ?_; rintro e W4 ⟨⟨v4, rfl, a4, c4, rfl, ho4⟩, hb4⟩; have B2 := HB2.out.below hb4; have B1 := HB1.out.below hb4; obtain ⟨p0, p1, p2, p3, f0, f1, f2, f3⟩ := B2.cells; obtain ⟨-, -, -, q3, -, -, -, g3⟩ := (B2.set2 (.int .i64 n)).cells; have B2' := (B2.set2 (.int .i64 n)).set3 (.slice a4 l.length c4); obtain ⟨s0, s1, s2, s3, -⟩ := B2'.cells; have B1' := (B1.other (b' := w.heap.size + 2) (o := 2) (u := .int .i64 n) (by omega)).other (b' := w.heap.size + 2) (o := 3) (u := .slice a4 l.length c4) (by omega); obtain ⟨t0, -, -, -, u0, -⟩ := B1'.cells; have B11 := B1'.set0 (.int .i64 ka); obtain ⟨-, t1, -, -, -, u1, -⟩ := B11.cells; have B12 := B11.set1 (.string kb); obtain ⟨-, -, t2, -, -, -, u2, -⟩ := B12.cells; have B13 := B12.set2 (.int .i64 n); obtain ⟨-, -, -, t3, -, -, -, u3⟩ := B13.cells; have B14 := B13.set3 (.slice a4 l.length c4))
  have o4 : OwnL W4 W3.heap.size (.slice a4 l.length c4) l := ho4
  have l1 : w.heap.size + 1 < W3.heap.size := by omega
  have l2 : w.heap.size + 1 + 1 < W3.heap.size := by omega
  exact bodyPost_ret (results_cell1 rfl rfl B14.load) rfl ⟨⟨(a4, l.length, c4), rfl, (own_set1 (own_set1 (own_set1 (own_set1 (own_set1 (own_set1 o4 l2 _) l2 _) l1 _) l1 _) l1 _) l1 _).lower (by omega)⟩,
    below_set1 (below_set1 (below_set1 (below_set1 (below_set1 (below_set1 (nxt HB.out hb4) (by omega) _) (by omega) _) (by omega) _) (by omega) _) (by omega) _) (by omega) _⟩
end Go.Proofs.Yticpaemmdfmbfaa
/- Rows compared. -/
namespace Go.Proofs.Yticpaemmdfmbfaa
open Go.RowKit
set_option linter.unusedVariables false
set_option maxRecDepth 100000

theorem eqrow_any (k : Ky) (n : Int) (l : List Int) (a a' : Option Addr) (cap cap' : Nat) (w : World) (h : NS w (.slice a l.length cap) l) (h' : NS w (.slice a' l.length cap') l) (hl : l.length ≤ 100000) :
    Calls Try.prog 39 #[.agg #[.int .i64 k.1, .string k.2, .int .i64 n, .slice a l.length cap], .agg #[.int .i64 k.1, .string k.2, .int .i64 n, .slice a' l.length cap']] w (BoolR w true) := by
  obtain ⟨ka, kb⟩ := k
  have hb : Below w.heap.size w ((w.alloc (.cells #[.int .i64 ka, .string kb, .int .i64 n, .slice a l.length cap] 67)).alloc (.cells #[.int .i64 ka, .string kb, .int .i64 n, .slice a' l.length cap'] 67)) := ((Below.refl _ _).alloc (Nat.le_refl _) _).alloc (by simp) _
  have H := hidM (eqcell_any _ _ (n, l) _ ⟨a, cap, rfl, h.below hb⟩ ⟨a', cap', rfl, h'.below hb⟩ hl)
  have HB := hidM hb
  have he := fun W => eqK ka ka kb kb W
  rw [eqB_self] at he
  have hg := fun op p q xs ys W => guardK op p q xs ys W
  simp only
  go_enter Try.func39, Try.ntmps39
  go_wp2_with (go_at_call 57; refine H.out.mono ?_; rintro e W2 ⟨rfl, hb2⟩)
  go_ret
  exact ⟨rfl, nxt HB.out hb2⟩
set_option maxHeartbeats 1000000 in
theorem eqrows_any (v u : Value) (l : List Rw) (w : World) (h : WS w v l) (h' : WS w u l) (hl : l.length ≤ 100000) (hls : ∀ r ∈ l, r.2.2.length ≤ 100000) :
    Calls Try.prog 15 #[v, u] w (BoolR w true) := by
  rcases h.shape with ⟨a, cap, rfl, rfl⟩ | ⟨b, off, cap, rfl, hb, hat⟩
  · obtain ⟨a', cap', rfl, -⟩ := h'
    go_enter Try.func15, Try.ntmps15
    go_wp2
    go_loop [5] (fun i => i = .int .i64 0) (fun _ => 0)
    case atStart => rfl
    case round =>
      subst hrel
      go_wp2
      go_ret
      exact ⟨rfl, Below.refl _ _⟩
  · obtain ⟨a', cap', rfl, hsh⟩ := h'
    go_enter Try.func15, Try.ntmps15
    go_wp2
    go_loopw [5] (fun i wr => ∃ k : Nat, k ≤ l.length ∧ i = .int .i64 k ∧ Below w.heap.size w wr) (fun i _ => l.length - (intOf i).toNat)
    case atStart => exact ⟨0, by omega, rfl, Below.refl _ _⟩
    case round =>
      rename World => w0
      obtain ⟨k, hk, rfl, hbel⟩ := hrel
      have hsz := hbel.size
      by_cases hlt : k < l.length
      · obtain ⟨⟨⟨ya, yb⟩, yn, yl⟩, hy⟩ := getSome hlt
        rcases hsh with rfl | ⟨b', off', rfl, hb', hat'⟩
        · simp at hlt
        have hyl : yl.length ≤ 100000 := hls _ (List.mem_of_getElem? hy)
        obtain ⟨c0, c1, c2, s1, p1, c3, n1⟩ := (hat.below hbel hb) k _ hy
        obtain ⟨d0, d1, d2, s2, p2, d3, n2⟩ := (hat'.below hbel hb') k _ hy
        simp only at c0 c1 c2 c3 n1 d0 d1 d2 d3 n2
        have H := hidM (fun W (hW : Below w0.heap.size w0 W) => eqrow_any (ya, yb) yn yl s1 s2 p1 p2 W (n1.below hW) (n2.below hW) hyl)
        have HS := hidM (show ∀ W, Below w0.heap.size w0 W → W.cell? ⟨b, off + k * 4, none⟩ = some (.int .i64 ya) ∧ W.cell? ⟨b, off + k * 4 + 1, none⟩ = some (.string yb) ∧ W.cell? ⟨b, off + k * 4 + 2, none⟩ = some (.int .i64 yn) ∧ W.cell? ⟨b, off + k * 4 + 3, none⟩ = some (.slice s1 yl.length p1) ∧ W.cell? ⟨b', off' + k * 4, none⟩ = some (.int .i64 ya) ∧ W.cell? ⟨b', off' + k * 4 + 1, none⟩ = some (.string yb) ∧ W.cell? ⟨b', off' + k * 4 + 2, none⟩ = some (.int .i64 yn) ∧ W.cell? ⟨b', off' + k * 4 + 3, none⟩ = some (.slice s2 yl.length p2) ∧ Below w0.heap.size w0 W from fun W hW => by
          have hl1 : b < w0.heap.size := by omega
          have hl2 : b' < w0.heap.size := by omega
          exact ⟨(hW.cell (p := ⟨b, _, none⟩) hl1).trans c0, (hW.cell (p := ⟨b, _, none⟩) hl1).trans c1, (hW.cell (p := ⟨b, _, none⟩) hl1).trans c2, (hW.cell (p := ⟨b, _, none⟩) hl1).trans c3, (hW.cell (p := ⟨b', _, none⟩) hl2).trans d0, (hW.cell (p := ⟨b', _, none⟩) hl2).trans d1, (hW.cell (p := ⟨b', _, none⟩) hl2).trans d2, (hW.cell (p := ⟨b', _, none⟩) hl2).trans d3, hW⟩)
        clear hat hat' n1 n2
        have HBEL := hidM hbel
        go_wp2_with fail
        go_region_held3 (fun W => W.cell? ⟨b, off + k * 4, none⟩ = some (.int .i64 ya) ∧ W.cell? ⟨b, off + k * 4 + 1, none⟩ = some (.string yb) ∧ W.cell? ⟨b, off + k * 4 + 2, none⟩ = some (.int .i64 yn) ∧ W.cell? ⟨b, off + k * 4 + 3, none⟩ = some (.slice s1 yl.length p1) ∧ W.cell? ⟨b', off' + k * 4, none⟩ = some (.int .i64 ya) ∧ W.cell? ⟨b', off' + k * 4 + 1, none⟩ = some (.string yb) ∧ W.cell? ⟨b', off' + k * 4 + 2, none⟩ = some (.int .i64 yn) ∧ W.cell? ⟨b', off' + k * 4 + 3, none⟩ = some (.slice s2 yl.length p2) ∧ Below w0.heap.size w0 W)
          (first | exact HS.out _ (Below.refl _ _).drew | exact HS.out _ (nxt ((Below.refl _ _).drew) hb2))
          (first | (go_at_call 39; refine (H.out _ ((Below.refl _ _).drew)).mono ?_; rintro e W2 ⟨rfl, hb2⟩))
        go_wp2
        go_roundw
        case rel => exact ⟨k + 1, by omega, by go_num, (HBEL.out.trans ((nxt ((Below.refl w0.heap.size w0).drew) hb2).mono hsz))⟩
        case measure => simp [intOf]; omega
      · go_wp2
        go_ret
        exact ⟨rfl, hbel⟩
end Go.Proofs.Yticpaemmdfmbfaa
