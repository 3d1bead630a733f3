/- Contracts over ops: CopyOps; Ops, which writes over what it is given. -/
import Derived.Test.YtaaijlkjbmpegaaDoorLOps
namespace Go.Proofs.YtaaijlkjbmpegaaDoor
open Go.RowKit
set_option linter.unusedVariables false
set_option maxRecDepth 100000

theorem hidC {p : Prop} (h : p) : Hid p := h
theorem Tryd.infoOp : (Tryd.prog.info? 60).map (fun i => (i.zero, i.size, i.bytes)) = some (some (.agg #[.int .i64 0, .int .i64 0, .slice none 0 0]), 3, 40) := by kernel_rfl
theorem own_row {w : World} {base n : Nat} {e : TypeId} {size : Nat} {v : Value} {xs : List Value} (h : w.ownsRow base e size v n xs) : ∀ k, v.ownBlock = some k → base ≤ k := fun k hk => (h.lt k hk).1
/-- A block of three cells. -/
theorem cell3 {w : World} {g : Nat} {x y z : Value} {T : TypeId} {fr : Nat × Nat} (h : w.heap[g]? = some (.cells #[x, y, z] T fr)) : w.cell? ⟨g, 0, none⟩ = some x ∧ w.cell? ⟨g, 1, none⟩ = some y ∧ w.cell? ⟨g, 2, none⟩ = some z := by
  refine ⟨?_, ?_, ?_⟩ <;> simp [World.cell?, h]
theorem news3 {w : World} {g : Nat} {x y z : Value} {T : TypeId} {fr : Nat × Nat} (h : w.heap[g]? = some (.cells #[x, y, z] T fr)) : ∀ j u, [x, y, z][j]? = some u → w.cell? ((⟨g, 0, none⟩ : Addr).add j) = some u := by
  intro j u hj
  rw [Addr.add_lit, Nat.zero_add]
  obtain ⟨a, b, c⟩ := cell3 h
  match j, hj with
  | 0, hj => simp at hj; subst hj; exact a
  | 1, hj => simp at hj; subst hj; exact b
  | 2, hj => simp at hj; subst hj; exact c
theorem new3 (w : World) (x y z : Value) (T : TypeId) : (w.alloc (.cells #[x, y, z] T)).heap[w.heap.size]? = some (.cells #[x, y, z] T (0, 0)) := heap_alloc_new w _
theorem op_cells (k n : Int) (a : Option Addr) (l c : Nat) : ∀ u ∈ [Value.int .i64 k, .int .i64 n, .slice a l c], u.oneCell' = true := by
  intro u hu
  simp only [List.mem_cons, List.not_mem_nil, or_false] at hu
  rcases hu with rfl | rfl | rfl <;> rfl

theorem owns_below {w w' : World} {base n size : Nat} {e : TypeId} {v : Value} {xs : List Value} (h : w.ownsRow base e size v n xs) (hb : Below w.heap.size w w') : w'.ownsRow base e size v n xs := by
  refine ⟨h.1, ?_⟩
  rcases h.2 with ⟨h1, h2⟩ | ⟨g, cap, cur, h1, h2, h3, h4⟩
  · exact .inl ⟨h1, h2⟩
  · exact .inr ⟨g, cap, cur, h1, h2, by rw [hb.block g (Array.getElem?_eq_some_iff.1 h3).1]; exact h3, h4⟩
/-- Ops that a call made, seen beside a row of one's own. -/
theorem inner_fs {lo lo1 : Nat} {w1 w3 : World} {v u : Value} {b : Fo} (h : FS (QO lo1) w1 v b) (hk : ∀ k, lo1 ≤ k → k < w1.heap.size → w3.heap[k]? = w1.heap[k]?) (hlo : lo ≤ lo1) (hu : ∀ k, u.ownBlock = some k → k < lo1) : FS (QX lo u) w3 v b :=
  h.move fun c o hq => by
    have hl := hq.lt
    obtain ⟨h1, cur, h2⟩ := hq
    have e := hk c h1.2 hl
    exact ⟨e, ⟨⟨h1.1, Nat.le_trans hlo h1.2⟩, cur, by rw [e]; exact h2⟩, fun hc => by have := hu c hc.symm; have := h1.2; omega⟩
theorem rows_below {lo : Nat} {w w3 : World} {v : Value} {f : Fo} {l : List Ro} (h : Rows' (QX lo v) w l f) (hb : Below w.heap.size w w3) : Rows' (QX lo v) w3 l f :=
  h.move fun c o hq => by
    have hl := hq.1.lt
    obtain ⟨⟨h1, cur, h2⟩, h3⟩ := hq
    have e := hb.block c hl
    exact ⟨e, ⟨h1, cur, by rw [e]; exact h2⟩, h3⟩
/-- A box, behind a call. -/
theorem box_kept {W w1 : World} {x y z : Value} {T : TypeId} (hb : Below (W.alloc (.cells #[x, y, z] T)).heap.size (W.alloc (.cells #[x, y, z] T)) w1) : w1.heap[W.heap.size]? = some (.cells #[x, y, z] T (0, 0)) := by
  rw [hb.block _ (by simp)]
  exact new3 W x y z T

set_option maxHeartbeats 800000 in
theorem copyO_sz : ∀ (s : Nat) (f : Fo) (v : Value) (w : World), f.sz ≤ s → FS QA w v f → f.len ≤ 3518437208780 → WfB f →
    Calls Tryd.prog 14 #[v] w fun e w' => ∃ v', e = .returned v' ∧ OwnF w.heap.size w' v' f ∧ Below w.heap.size w w' := by
  intro s
  induction s with
  | zero =>
    intro f v w hs h hl hwf
    obtain rfl : f = .nil := by cases f with
      | nil => rfl
      | cons k n b r => simp [Fo.sz] at hs
    obtain ⟨a, cap, rfl⟩ := h.val
    simp only [Fo.len]
    go_enter Tryd.func14, Tryd.ntmps14
    go_wp2
    go_loop [3, 4] (fun n i => n = .slice none 0 0 ∧ i = .int .i64 0) (fun _ _ => 0)
    case atStart => exact ⟨rfl, rfl⟩
    case round =>
      obtain ⟨rfl, rfl⟩ := hrel
      go_wp2
      go_ret
      exact ⟨_, rfl, OwnF.nil _ _, Below.refl _ _⟩
  | succ s ih =>
    intro f v w hs h hl hwf
    rcases h.shape with ⟨a, cap, rfl, hf⟩ | ⟨g, o, cap, rfl, hq, hat⟩
    · subst hf
      exact ih .nil _ w (by simp [Fo.sz]) h hl hwf
    obtain ⟨i0, hi, hz0, hz1, hz2⟩ := info_parts Tryd.infoOp
    obtain ⟨n, hn⟩ : ∃ n, f.len = n := ⟨_, rfl⟩
    rw [hn] at hl ⊢
    have HN : Hid (f.len = n) := hn
    have HI := hidC ih
    have hgw : g < w.heap.size := hq
    clear hn ih h
    go_enter Tryd.func14, Tryd.ntmps14
    go_wp2
    go_loopw [3, 4] (fun m i wr => ∃ k : Nat, k ≤ n ∧ i = .int .i64 k ∧ OwnF w.heap.size wr m (f.take k) ∧ Below w.heap.size w wr) (fun _ i _ => n - (intOf i).toNat)
    case atStart => exact ⟨0, by omega, rfl, OwnF.nil _ _, Below.refl _ _⟩
    case round =>
      obtain ⟨k, hk, rfl, hown, hbel⟩ := hrel
      have hsz := hbel.size
      by_cases hlt : k < n
      · have hat' : FoAt QA wr f g o := hat.move (fun b o hq => ⟨hbel.block b hq, Nat.lt_of_lt_of_le hq hsz⟩) (hbel.block g hgw)
        obtain ⟨kk, nn, b, r, sv, e1, e2, e3, c0, c1, c2, hsv⟩ := hat'.at (i := k) (by rw [HN.out]; exact hlt)
        obtain ⟨hb1, hb2⟩ := hwf.at e1
        have hbs := Fo.sz_blk e1
        have htl : (f.take k).len = k := Fo.take_len k f (by rw [HN.out]; omega)
        have HT := hidC e3
        have Hc : Hid (∀ W, FS QA W sv b → Calls Tryd.prog 14 #[sv] W fun e w' => ∃ v', e = .returned v' ∧ OwnF W.heap.size w' v' b ∧ Below W.heap.size W w') := fun W hW => HI.out b sv W (by omega) hW (by omega) hb2
        have Hs : Hid (FS QA wr sv b) := hsv
        obtain ⟨a1, cap1, rfl⟩ := hsv.val
        obtain ⟨l, hol, hrl⟩ := hown
        have Hol := hidC hol
        have Hrl := hidC hrl
        have hll := hrl.len
        have HL : Hid (l.length = (f.take k).len) := hll
        have hgr : g < wr.heap.size := by omega
        have hca : ∀ (q : Nat) (X : Obj), (wr.alloc X).cell? ⟨g, q, none⟩ = wr.cell? ⟨g, q, none⟩ := fun q X => World.cell?_of_block (a := ⟨g, q, none⟩) (Below.heap_alloc _ _ _ hgr)
        clear e1 e2 e3 hat hat' hsv hwf hol hrl hll
        go_wp2_with (go_at_call 14; refine (Hc.out _ ?cS).mono ?_)
        case cS => exact Hs.out.below ((Below.refl _ _).alloc (Nat.le_refl _) _)
        rintro e w1 ⟨v1, rfl, hown1, hb1⟩
        have hbox := box_kept hb1
        obtain ⟨d0, d1, d2⟩ := cell3 hbox
        have hfz : w1.frozen? ⟨wr.heap.size, 2, none⟩ = false := by simp [World.frozen?, hbox]
        obtain ⟨a2, cap2, rfl⟩ := hown1.len
        have hs1 : wr.heap.size + 1 ≤ w1.heap.size := by have := hb1.size; simpa using this
        have Hw := hidC hown1
        have Hb := hidC hb1
        have hb3 : Below wr.heap.size wr ((w1.setCell ⟨wr.heap.size, 2, none⟩ (.slice a2 b.len cap2)).alloc (.cells #[.int .i64 kk, .int .i64 nn, .slice a2 b.len cap2] 60)) :=
          ((((Below.refl _ _).alloc (Nat.le_refl _) _).trans (hb1.mono (by simp))).setCell (Nat.le_refl _) _).alloc (by simp; omega) _
        have H3 := hidC hb3
        have hlk : l.length = k := HL.out.trans htl
        clear hown1 hb1 hbox hca hb3 htl
        go_wp2_with (at_builtin; refine wpList_append_own_at _ rfl _ _ 23 rfl w.heap.size 60 i0 _ 3 40 Tryd.underlying23 hi hz0 hz1 hz2 rfl (by decide) u3 l.length (flatO l) rfl ?cO ⟨w1.heap.size, 0, none⟩ 1 1 [.int .i64 kk, .int .i64 nn, .slice a2 b.len cap2] rfl rfl ?cN (op_cells _ _ _ _ _) ?c3 ?c4 ?c5 ?_)
        case cO => exact owns_below Hol.out H3.out
        case cN => exact news3 (by have := new3 (w1.setCell ⟨wr.heap.size, 2, none⟩ (.slice a2 b.len cap2)) (.int .i64 kk) (.int .i64 nn) (.slice a2 b.len cap2) 60; simpa using this)
        case c3 => unfold maxLen; omega
        case c4 => omega
        case c5 => simp; omega
        intro v2 w2 hown2 hgrow2 _ hat2
        have hin : FS (QX w.heap.size u3) ((w1.setCell ⟨wr.heap.size, 2, none⟩ (.slice a2 b.len cap2)).alloc (.cells #[.int .i64 kk, .int .i64 nn, .slice a2 b.len cap2] 60)) (.slice a2 b.len cap2) b := by
          refine inner_fs Hw.out.fs (fun j hj hlt => ?_) (by simp; omega) (fun j hj => ?_)
          · rw [Below.heap_alloc _ _ _ (by simpa using hlt), Below.heap_setCell _ _ _ _ (by simp at hj ⊢; omega)]
          · have := (Hol.out.lt j hj).2; simp; omega
        have hown3 : OwnF w.heap.size w2 v2 (f.take (k + 1)) := by
          rw [HT.out]
          exact OwnF.snoc (owns_below Hol.out H3.out) (rows_below Hrl.out H3.out) hin (by rw [hlk]; exact hown2) hgrow2 (by simpa using hat2)
        have hbel2 : Below w.heap.size w w2 := (hbel.trans (H3.out.mono hsz)).grown hgrow2 (by simp; omega) (own_row Hol.out)
        clear hown2 hgrow2 hbel c0 c1 c2 d0 d1 d2 hat2 hin
        go_wp2
        go_roundw
        case rel => exact ⟨k + 1, by omega, by go_num, hown3, hbel2⟩
        case measure => simp [intOf]; omega
      · have hlt' : n ≤ k := by omega
        have e : f.take k = f := Fo.take_all k f (by rw [HN.out]; exact hlt')
        rw [e] at hown
        clear hat hwf e
        go_wp2
        go_ret
        exact ⟨_, rfl, hown, hbel⟩
theorem copyO_any (f : Fo) (v : Value) (w : World) (h : FS QA w v f) (hl : f.len ≤ 3518437208780) (hwf : WfB f) :
    Calls Tryd.prog 14 #[v] w fun e w' => ∃ v', e = .returned v' ∧ OwnF w.heap.size w' v' f ∧ Below w.heap.size w w' := copyO_sz f.sz f v w (Nat.le_refl _) h hl hwf
end Go.Proofs.YtaaijlkjbmpegaaDoor
