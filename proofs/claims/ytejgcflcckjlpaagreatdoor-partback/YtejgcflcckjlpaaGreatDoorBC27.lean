/- Records folded: row.Fold. -/
import Derived.Test.YtejgcflcckjlpaaGreatDoorBC24
import Derived.Test.YtejgcflcckjlpaaGreatDoorBC26
namespace Go.Proofs.YtejgcflcckjlpaaGreatDoor
open Go.RowKit Go.Maps
set_option linter.unusedVariables false
set_option maxRecDepth 100000

/-- A cell that may be, as the program holds it. -/
def OkC (agg bound : Int) (c : Cl) : Prop := chk agg bound c = true ∧ WfC c ∧ c.2.length ≤ 32
theorem okC_join {agg bound : Int} {a b : Cl} (ha : OkC agg bound a) (hb : OkC agg bound b) : ((joinC agg bound.toNat a b).2 = 0 → OkC agg bound (joinC agg bound.toNat a b).1) ∧ ((joinC agg bound.toNat a b).2 = 0 ∨ (joinC agg bound.toNat a b).2 = 11) := by
  have := chk_join ha.1 hb.1 ha.2.1 hb.2.1
  rw [joinR_of ha.1 hb.1] at this
  exact ⟨fun h => ⟨this.1 h, this.2.1, this.2.2.1⟩, this.2.2.2⟩
theorem okC_gat {agg bound : Int} (l : List Rw) (hl : ∀ r ∈ l, OkC agg bound r.2) : ∀ x c, look (gat (joinC agg bound.toNat) l).1 x = some c → OkC agg bound c :=
  (all_gat (P := OkC agg bound) (E := fun e => e = 0 ∨ e = 11) (fun a b ha hb => okC_join ha hb) (.inl rfl) l hl).1
theorem okC_one {agg bound v : Int} (hw : wayC agg bound = true) (hv : Num64 v) : OkC agg bound (oneC agg v) := ⟨chk_one v hw, (wf_one hv).1, (wf_one hv).2⟩
theorem okC_fold {agg bound : Int} (l : List Rc) (hw : wayC agg bound = true) (hl : Wf l) : ∀ x c, look (foldR agg bound.toNat l).1 x = some c → OkC agg bound c :=
  okC_gat _ fun r hr => by
    unfold ones at hr
    obtain ⟨y, hy, rfl⟩ := List.mem_map.1 hr
    exact okC_one hw ⟨(hl y hy).v1, (hl y hy).v2⟩
theorem good_rec {x : Rc} (h : Wr x) : Good x.1 := ⟨⟨h.k1, h.k2⟩, by have := h.txt; unfold maxLen; omega⟩
/-- Every key may be. -/
def keysOk (l : List Rc) : Bool := l.all fun r => decide (r.1.2.size ≤ 64)
def foldRes (agg bound : Int) (l : List Rc) : List Rw × Int := if wayC agg bound && decide (l.length ≤ 1536) && keysOk l then fin (foldR agg bound.toNat l) else ([], 1)
theorem rway_any (agg bound : Int) (w : World) : Calls Tryz.prog 35 #[.int .i64 agg, .int .i64 bound] w (BoolR w (wayC agg bound)) := by
  have H := hidM (fun W => check_any agg bound (.agg #[.int .i64 0, .slice none 0 0]) (0, []) W ⟨none, 0, rfl, none, 0, rfl, .inl rfl⟩ (by decide))
  cases hw : wayC agg bound with
  | true =>
    rw [chk_zero hw, show errC true = 0 from rfl] at H
    go_enter Tryz.func35, Tryz.ntmps35
    go_wp2_with (go_at_call 37; refine (H.out _).mono ?_; rintro e W2 ⟨rfl, hb2⟩)
    go_ret
    exact ⟨rfl, hb2⟩
  | false =>
    rw [show chk agg bound (0, []) = false by unfold chk; rw [hw, Bool.false_and], show errC false = 1 from rfl] at H
    go_enter Tryz.func35, Tryz.ntmps35
    go_wp2_with (go_at_call 37; refine (H.out _).mono ?_; rintro e W2 ⟨rfl, hb2⟩)
    go_ret
    exact ⟨rfl, hb2⟩
theorem newG_any (agg bound : Int) (base : Nat) (w : World) (hb : base ≤ w.heap.size) : Calls Tryz.prog 46 #[.int .i64 agg, .int .i64 bound] w fun e w' => e = .returned (.pointer (some ⟨w.heap.size + 1, 0, none⟩)) ∧ Gat w' base (w.heap.size + 1) w.heap.size agg bound [] 0 0 ∧ Below w.heap.size w w' := by
  have hmm := @run_makeMap Tryz.prog
  go_enter Tryz.func46, Tryz.ntmps46
  go_wp2
  go_ret
  have st : ∀ (W : World) (o : Obj), Below W.heap.size W (W.alloc o) := fun W o => (Below.refl _ _).alloc (Nat.le_refl _) _
  refine ⟨rfl, ⟨?_, ⟨.map [], (World.ownsMap_made w _ _ _).alloc _, MapC.start _ _⟩, by omega, hb⟩, nxt (st _ _) (st _ _)⟩
  have := heap_alloc_new (w.alloc (.map #[] 0)) (.cells #[.int .i64 agg, .int .i64 bound, .map (some w.heap.size), .int .i64 0] 96)
  simpa using this
theorem keysOk_step {l : List Rc} {k : Nat} {x : Rc} (h : keysOk (l.take k) = true) (hx : l[k]? = some x) (hs : x.1.2.size ≤ 64) : keysOk (l.take (k + 1)) = true := by
  rw [List.take_add_one, hx]
  unfold keysOk at h ⊢
  simp only [Option.toList_some, List.all_append, h, Bool.true_and]
  simpa using hs
theorem keysOk_bad {l : List Rc} {k : Nat} {x : Rc} (hx : l[k]? = some x) (hs : ¬ x.1.2.size ≤ 64) : keysOk l = false := by
  cases h : keysOk l with
  | false => rfl
  | true =>
    unfold keysOk at h
    rw [List.all_eq_true] at h
    have := h x (List.mem_of_getElem? hx)
    simp at this
    omega
theorem len_fold (agg : Int) (bd : Nat) (l : List Rc) : (foldR agg bd l).1.length ≤ l.length := by
  have := len_gat (joinC agg bd) (ones agg l)
  unfold foldR
  unfold ones at this ⊢
  simpa using this
theorem good_fold (agg : Int) (bd : Nat) {l : List Rc} (hwf : Wf l) : ∀ r ∈ (foldR agg bd l).1, Good r.1 := by
  intro r hr
  have h1 := mem_look (fold_rise agg bd l) hr
  obtain ⟨y, hy, e⟩ := (keys_gat (joinC agg bd) (ones agg l) r.1).1 (by unfold foldR at h1; rw [h1]; rfl)
  unfold ones at hy
  obtain ⟨z, hz, rfl⟩ := List.mem_map.1 hy
  rw [← e]
  exact good_rec (hwf z hz)
theorem blk3 {W : World} {b : Nat} {u v x : Value} {T : TypeId} (h : W.heap[b]? = some (.cells #[u, v, x] T (0, 0))) : W.cell? ⟨b, 0, none⟩ = some u ∧ W.cell? ⟨b, 1, none⟩ = some v ∧ W.cell? ⟨b, 2, none⟩ = some x := by
  refine ⟨?_, ?_, ?_⟩ <;> simp [World.cell?, h]
end Go.Proofs.YtejgcflcckjlpaaGreatDoor
