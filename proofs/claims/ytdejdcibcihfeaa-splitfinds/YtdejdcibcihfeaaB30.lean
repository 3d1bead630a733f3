/- Numbers of the call's own, written over. -/
import Derived.Test.YtdejdcibcihfeaaB29
namespace Go.Proofs.Ytdejdcibcihfeaa
open Go.RowKit
set_option linter.unusedVariables false
set_option maxRecDepth 100000

/-- An append whose run is known, at the list of a plain region's operations. -/
theorem wpList_append_run {P : Program} (w : World) {ops : Array Oper} {rest : List Oper} {o : Oper} {a : Act} {Q : Exit → Act → World → Prop} (hgd : o.guard = none) (s x : Operand) (t : TypeId)
    (ho : o.op = .call { callee := .builtin .append, args := #[s, x], argTypes := #[t, t] }) (v u v' : Value) (w' : World) (hs : a.eval s = v) (hx : a.eval x = u)
    (hr : (Builtin.append_ #[t, t] o.type #[v, u]).run P w = .ok v' w') (h : wpList P ops Q rest (a.put o.dst v') w') : wpList P ops Q (o :: rest) a w := by
  refine wpList_plain hgd fun K hK => ?_
  unfold Oper.wp execOp
  simp only [ho, resolve, invoke, builtin, Sem.run_bind, Sem.run_pure, Result.andThen_ok, List.map_toArray, List.map_cons, List.map_nil, hs, hx, hr]
  exact hK _ _ h
theorem own_rowN {w : World} {base n : Nat} {e : TypeId} {size : Nat} {v : Value} {xs : List Value} (h : w.ownsRow base e size v n xs) : ∀ k, v.ownBlock = some k → base ≤ k := fun k hk => (h.lt k hk).1
theorem map_set_num (l : List Int) (j : Nat) (x : Int) : (l.map (Value.int .i64)).set j (.int .i64 x) = (l.set j x).map (Value.int .i64) := by rw [List.map_set]
theorem OwnN.put {w : World} {base g cap j : Nat} {l : List Int} {x : Int} (h : OwnN w base (.slice (some ⟨g, 0, none⟩) l.length cap) l) : OwnN (w.setCell ⟨g, j, none⟩ (.int .i64 x)) base (.slice (some ⟨g, 0, none⟩) l.length cap) (l.set j x) := by
  have := (World.ownsRow.stored h j (.int .i64 x)).1
  rw [map_set_num] at this
  unfold OwnN
  rw [List.length_set]
  exact this
set_option maxHeartbeats 800000 in
theorem wipeNums_any (base : Nat) (v : Value) (l : List Int) (w : World) (h : OwnN w base v l) (hl : l.length ≤ 17592186043904) (hbw : base ≤ w.heap.size) :
    Calls Try.prog 12 #[v] w fun e w' => e = .returned (.tuple #[]) ∧ Below base w w' := by
  have HAP := hidM (show ∀ (W : World) (m : List Int) (u : Value), m.length = l.length → OwnN W base u m → Below base w W → ∃ v4 W4, (Builtin.append_ #[25, 25] 25 #[u, .slice (some ⟨W.heap.size, 0, none⟩) 1 1]).run Try.prog (W.alloc (.cells #[.int .i64 5] 3)) = .ok v4 W4 ∧ Below base w W4 from fun W m u hm ho hb => by
    have hsz := hb.size
    have hst : Below W.heap.size W (W.alloc (.cells #[.int .i64 5] 3)) := (Below.refl _ _).alloc (Nat.le_refl _) _
    have hns : NS (W.alloc (.cells #[.int .i64 5] 3)) (.slice (some ⟨W.heap.size, 0, none⟩) 1 1) [5] := ⟨_, 1, rfl, .inr ⟨W.heap.size, 0, rfl, by simp, fun i x hx => by
      match i, hx with
      | 0, hx => simp at hx; subst hx; unfold World.cell?; rw [heap_alloc_new W _]; rfl⟩⟩
    obtain ⟨v4, W4, q1, q2, q3, q4⟩ := append_is 25 (ho.below hst) hns (by simp; omega) (by have := hst.size; omega)
    exact ⟨v4, W4, q1, (hb.trans (hst.mono (by omega))).grown q3 (by have := hst.size; omega) (own_rowN (ho.below hst))⟩)
  rcases h.2 with ⟨rfl, h0⟩ | ⟨g, cap, cur, rfl, hgb, hg, hrest⟩
  · obtain ⟨v4, W4, q1, q2⟩ := HAP.out w l _ rfl h (Below.refl _ _)
    have U1 := hidM q1
    clear q1 h HAP
    go_enter Try.func12, Try.ntmps12
    go_wp2
    go_loop [2] (fun i => i = .int .i64 0) (fun _ => 0)
    case atStart => rfl
    case round =>
      subst hrel
      go_wp2_with (at_builtin; refine wpList_append_run _ rfl _ _ _ rfl _ _ v4 W4 rfl rfl U1.out ?_)
      go_end0
      exact ⟨rfl, q2⟩
  · clear hg hrest
    go_enter Try.func12, Try.ntmps12
    go_wp2
    go_loopw [2] (fun i wr => ∃ (k : Nat) (m : List Int), k ≤ l.length ∧ i = .int .i64 k ∧ m.length = l.length ∧ OwnN wr base (.slice (some ⟨g, 0, none⟩) m.length cap) m ∧ Below base w wr) (fun i _ => l.length - (intOf i).toNat)
    case atStart => exact ⟨0, l, by omega, rfl, rfl, h, Below.refl _ _⟩
    case round =>
      rename World => w0
      obtain ⟨k, m, hk, rfl, hm, ho, hbel⟩ := hrel
      by_cases hlt : k < l.length
      · have hki0 : (0 : Int) ≤ (k : Int) := by omega
        have hki : (k : Int) < (l.length : Int) := by omega
        obtain ⟨x, hx⟩ := getSome (l := m) (i := k) (by omega)
        have c0 : w0.cell? ⟨g, k, none⟩ = some (.int .i64 x) := by
          rw [World.ownsRow.cellAt ho k (by omega), List.getElem?_map, hx]
          rfl
        have f0 := World.ownsRow.frozenAt ho k
        have HO := hidM (OwnN.put (j := k) (x := -99) ho)
        have HB := hidM (hbel.setCell (p := ⟨g, k, none⟩) hgb (.int .i64 (-99)))
        have HM := hidM hm
        clear ho hbel hx hm h HAP
        go_wp2
        go_roundw
        case rel => exact ⟨k + 1, m.set k (-99), by omega, by go_num, by rw [List.length_set]; exact HM.out, by rw [List.length_set]; exact HO.out, HB.out⟩
        case measure => simp [intOf]; omega
      · have hlt' : ¬ (k : Int) < (l.length : Int) := by omega
        rw [hm] at ho
        obtain ⟨v4, W4, q1, q2⟩ := HAP.out w0 m (.slice (some ⟨g, 0, none⟩) l.length cap) hm ho hbel
        have U1 := hidM q1
        clear q1 h HAP ho hbel hm
        go_wp2_with (at_builtin; refine wpList_append_run _ rfl _ _ _ rfl _ _ v4 W4 rfl rfl U1.out ?_)
        go_end0
        exact ⟨rfl, q2⟩
end Go.Proofs.Ytdejdcibcihfeaa
