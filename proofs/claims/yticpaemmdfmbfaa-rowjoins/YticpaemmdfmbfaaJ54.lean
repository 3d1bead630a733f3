/- Texts laid together: WRuns, WRunsEq, WWipe. -/
import Derived.Test.YticpaemmdfmbfaaJ53
import Derived.Test.YticpaemmdfmbfaaJ42
import Derived.Test.YticpaemmdfmbfaaJ38
/- Runs of rows: copied, compared. -/
namespace Go.Proofs.Yticpaemmdfmbfaa
open Go.RowKit
set_option linter.unusedVariables false
set_option maxRecDepth 100000

theorem Try.infoRows : (Try.prog.info? 28).map (fun i => (i.zero, i.size, i.bytes)) = some (some (.slice none 0 0), 1, 24) := by kernel_rfl
/-- All rows of elements of type T stay. -/
def KeepT (T : TypeId) (w w' : World) : Prop := ∀ (g : Nat) (cur : Array Value), w.heap[g]? = some (.cells cur T (0, 0)) → w'.heap[g]? = some (.cells cur T (0, 0))
theorem KeepT.row {T T' : TypeId} (hT : T ≠ T') {W W' : World} {base sz n : Nat} {v : Value} {xs : List Value} (h : W.ownsRow base T' sz v n xs) (hg : W.grownBy W' v.ownBlock) : KeepT T W W' := fun g cur hh => by
  refine (hg.block g (Array.getElem?_eq_some_iff.1 hh).1 (fun e => ?_)).trans hh
  rcases h.2 with ⟨rfl, _⟩ | ⟨g', cap, cur', rfl, _, hb, _⟩
  · simp [Value.ownBlock] at e
  · have : g' = g := by simpa [Value.ownBlock] using e.symm
    subst this
    rw [hb] at hh
    injection hh with hh
    injection hh with _ hh
    exact hT hh.symm
theorem KeepT.below {T : TypeId} {w w' : World} (h : Below w.heap.size w w') : KeepT T w w' := fun g cur hg => by rw [h.block g (Array.getElem?_eq_some_iff.1 hg).1]; exact hg
theorem OwnX.keepT {w w' : World} {base : Nat} {v : Value} {xs : List Raw} (h : OwnX w base v xs) (k : KeepT 67 w w') : OwnX w' base v xs := by
  refine ⟨h.1, ?_⟩
  rcases h.2 with ⟨h1, h2⟩ | ⟨g, cap, cur, h1, h2, h3, h4⟩
  · exact .inl ⟨h1, h2⟩
  · exact .inr ⟨g, cap, cur, h1, h2, k g cur h3, h4⟩
theorem OwnW.keepT {w w' : World} {base : Nat} {v : Value} {l : List Rw} (h : OwnW w base v l) (hs : w.heap.size ≤ w'.heap.size) (k : KeepT 67 w w') (k2 : KeepT 2 w w') : OwnW w' base v l := by
  obtain ⟨xs, h1, h2⟩ := h
  exact ⟨xs, h1.keepT k, h2.keep ⟨hs, k2⟩⟩
/-- v owns the runs L: they, their rows and their sets lie from base on. -/
def OwnRs (w : World) (base : Nat) (v : Value) (L : List (List Rw)) : Prop := ∃ vs, w.ownsRow base 28 1 v vs.length vs ∧ vs.length = L.length ∧ ∀ (i : Nat) (u : Value) (l : List Rw), vs[i]? = some u → L[i]? = some l → OwnW w base u l
theorem OwnRs.nil (w : World) (base : Nat) : OwnRs w base (.slice none 0 0) [] := ⟨[], World.ownsRow_nil _ _ _ _, rfl, fun i u l h => by simp at h⟩
theorem ownsRow_below {w w' : World} {base n sz : Nat} {T : TypeId} {v : Value} {xs : List Value} (h : w.ownsRow base T sz v n xs) (hb : Below w.heap.size w w') : w'.ownsRow base T sz v n xs := by
  refine ⟨h.1, ?_⟩
  rcases h.2 with ⟨h1, h2⟩ | ⟨g, cap, cur, h1, h2, h3, h4⟩
  · exact .inl ⟨h1, h2⟩
  · exact .inr ⟨g, cap, cur, h1, h2, by rw [hb.block g (Array.getElem?_eq_some_iff.1 h3).1]; exact h3, h4⟩
theorem OwnRs.below {w w' : World} {base : Nat} {v : Value} {L : List (List Rw)} (h : OwnRs w base v L) (hb : Below w.heap.size w w') : OwnRs w' base v L := by
  obtain ⟨vs, h1, h2, h3⟩ := h
  exact ⟨vs, ownsRow_below h1 hb, h2, fun i u l hu hl => (h3 i u l hu hl).below hb⟩
theorem OwnW.slice {w : World} {base : Nat} {v : Value} {l : List Rw} (h : OwnW w base v l) : ∃ a c, v = .slice a l.length c := by
  obtain ⟨a, c, e, -⟩ := h.ws
  exact ⟨a, c, e⟩
/-- What the call owns may be read. -/
theorem OwnRs.rns {w : World} {base : Nat} {v : Value} {L : List (List Rw)} (h : OwnRs w base v L) : RnS w v L := by
  obtain ⟨vs, hx, hl, ha⟩ := h
  rcases hx.2 with ⟨rfl, h0⟩ | ⟨g, cap, cur, rfl, _, hb, _, _, _, ht⟩
  · have : vs = [] := List.length_eq_zero_iff.1 h0
    subst this
    have : L = [] := List.length_eq_zero_iff.1 hl.symm
    subst this
    exact ⟨none, 0, rfl, .inl rfl⟩
  · refine ⟨_, cap, by rw [hl], .inr ⟨g, 0, rfl, (Array.getElem?_eq_some_iff.1 hb).1, fun i l hi => ?_⟩⟩
    have hil : i < L.length := (List.getElem?_eq_some_iff.1 hi).1
    obtain ⟨u, hu⟩ := getSome (l := vs) (i := i) (by rw [hl]; exact hil)
    have ho := ha i u l hu hi
    refine ⟨u, ?_, ho.ws, ho.cap⟩
    have h0 := hu
    rw [← ht, List.getElem?_take_of_lt (by omega)] at h0
    rw [Nat.zero_add]
    simp only [World.cell?, hb]
    simpa using h0
/-- One run more. -/
theorem OwnRs.app {W : World} {base b : Nat} {v u : Value} {L : List (List Rw)} {l : List Rw} (ty : TypeId) (h : OwnRs W base v L) (hu : OwnW W base u l) (hc : W.cell? ⟨b, 0, none⟩ = some u) (hl : L.length ≤ 100000) (hb : base ≤ W.heap.size) :
    ∃ v' W', (Builtin.append_ #[22, 22] ty #[v, .slice (some ⟨b, 0, none⟩) 1 1]).run Try.prog W = .ok v' W' ∧ OwnRs W' base v' (L ++ [l]) ∧ W.grownBy W' v.ownBlock ∧ ∀ k, v.ownBlock = some k → base ≤ k := by
  obtain ⟨i0, hi, hz0, hz1, hz2⟩ := info_parts Try.infoRows
  obtain ⟨vs, h1, h2, h3⟩ := h
  obtain ⟨ua, uc, rfl⟩ := hu.slice
  obtain ⟨v', w', hr, q2, q3, _, q5⟩ := run_append_own_at (P := Try.prog) W base 22 ty 28 i0 _ 1 24 Try.underlying22 hi hz0 hz1 hz2 rfl (by decide) v vs.length vs h1 ⟨b, 0, none⟩ 1 1 [.slice ua l.length uc] rfl (fun j u hj => by
    match j, hj with
    | 0, hj => simp at hj; subst hj; rw [Addr.add_lit]; exact hc) (fun u hu => by simp at hu; subst hu; rfl) (by unfold maxLen; omega) (by omega) hb
  have k1 : KeepT 67 W w' := KeepT.row (by decide) h1 q3
  have k2 : KeepT 2 W w' := KeepT.row (by decide) h1 q3
  refine ⟨v', w', hr, ⟨vs ++ [.slice ua l.length uc], by rw [List.length_append]; exact q2, by simp [h2], fun i u l' hu' hl' => ?_⟩, q3, own_row h1⟩
  by_cases hi' : i < vs.length
  · rw [List.getElem?_append_left hi'] at hu'
    rw [List.getElem?_append_left (h2 ▸ hi')] at hl'
    exact (h3 i u l' hu' hl').keepT q3.size k1 k2
  · rw [List.getElem?_append_right (by omega)] at hu'
    rw [List.getElem?_append_right (by omega)] at hl'
    have e : i - vs.length = 0 := by
      have := (List.getElem?_eq_some_iff.1 hu').1
      simp at this
      omega
    rw [e] at hu'
    rw [← h2, e] at hl'
    simp at hu' hl'
    subst hu' hl'
    exact hu.keepT q3.size k1 k2
set_option maxHeartbeats 800000 in
theorem copyRuns_any (v : Value) (L : List (List Rw)) (w : World) (h : RnS w v L) (hl : L.length ≤ 100000) (hls : ∀ l ∈ L, l.length ≤ 100000 ∧ ∀ r ∈ l, r.2.2.length ≤ 100000) :
    Calls Try.prog 18 #[v] w fun e w' => (∃ v', e = .returned v' ∧ OwnRs w' w.heap.size v' L) ∧ Below w.heap.size w w' := by
  obtain ⟨va, vc, rfl, hsh⟩ := h
  go_enter Try.func18, Try.ntmps18
  go_wp2
  go_loopw [3, 4] (fun vo i wr => ∃ k : Nat, k ≤ L.length ∧ i = .int .i64 k ∧ OwnRs wr w.heap.size vo (L.take k) ∧ Below w.heap.size w wr) (fun _ i _ => L.length - (intOf i).toNat)
  case atStart => exact ⟨0, by omega, rfl, OwnRs.nil _ _, Below.refl _ _⟩
  case round =>
    rename World => w0
    obtain ⟨k, hk, rfl, ho, hbel⟩ := hrel
    have hsz := hbel.size
    by_cases hlt : k < L.length
    · obtain ⟨r, hr⟩ := getSome hlt
      rcases hsh with rfl | ⟨b, off, rfl, hb, hat⟩
      · simp at hlt
      obtain ⟨u, hu0, hws, -⟩ := hat k r hr
      have hu := (hbel.cell (p := ⟨b, off + k, none⟩) hb).trans hu0
      obtain ⟨q1, q2⟩ := hls r (List.mem_of_getElem? hr)
      have HC := hidM (copyRows_any u r w0 (hws.below hbel) q1 q2)
      obtain ⟨ua, uc, rfl, -⟩ := id hws
      have hst : ∀ (W : World) (o : Obj), Below W.heap.size W (W.alloc o) := fun W o => (Below.refl _ _).alloc (Nat.le_refl _) _
      have hstep : L.take (k + 1) = L.take k ++ [r] := by rw [List.take_add_one, hr]; rfl
      have HT := hidM (show ∀ (W2 : World) (v2 : Value), Below w0.heap.size w0 W2 → OwnW W2 w0.heap.size v2 r → ∃ v4 W4, (Builtin.append_ #[22, 22] 22 #[u3, .slice (some ⟨W2.heap.size, 0, none⟩) 1 1]).run Try.prog (W2.alloc (.cells #[v2] 28)) = .ok v4 W4 ∧ OwnRs W4 w.heap.size v4 (L.take (k + 1)) ∧ Below w.heap.size w W4 from fun W2 v2 hb2 ho2 => by
        have G3 := nxt hb2 (hst W2 (.cells #[v2] 28))
        have hcell : (W2.alloc (.cells #[v2] 28)).cell? ⟨W2.heap.size, 0, none⟩ = some v2 := by unfold World.cell?; rw [heap_alloc_new W2 _]; rfl
        obtain ⟨v4, W4, u1, u2, u3, u4⟩ := (ho.below G3).app 22 ((ho2.below (hst W2 _)).lower hsz) hcell (by rw [List.length_take]; omega) (by have := G3.size; omega)
        rw [hstep]
        exact ⟨v4, W4, u1, u2, (hbel.trans (G3.mono hsz)).grown u3 (by have := G3.size; omega) u4⟩)
      clear hat hbel ho hst hstep hr hws hu0
      go_wp2_with (first
        | (go_at_call 40; refine HC.out.mono ?_; rintro e W2 ⟨⟨v2, rfl, ho2⟩, hb2⟩; obtain ⟨a2, c2, rfl⟩ := id ho2.slice; obtain ⟨v4, W4, u1, hown4, hbel4⟩ := HT.out W2 _ hb2 ho2; have U1 := hidM u1; clear u1)
        | (at_builtin; refine wpList_append_run _ rfl _ _ _ rfl _ _ v4 W4 rfl rfl U1.out ?_))
      go_roundw
      case rel => exact ⟨k + 1, by omega, by go_num, hown4, hbel4⟩
      case measure => simp [intOf]; omega
    · have hlt' : L.length ≤ k := by omega
      rw [List.take_of_length_le hlt'] at ho
      go_wp2
      go_ret
      exact ⟨⟨_, rfl, ho⟩, hbel⟩
end Go.Proofs.Yticpaemmdfmbfaa
/- Runs of rows compared. -/
namespace Go.Proofs.Yticpaemmdfmbfaa
open Go.RowKit
set_option linter.unusedVariables false
set_option maxRecDepth 100000

set_option maxHeartbeats 1000000 in
theorem eqRuns_any (v u : Value) (L : List (List Rw)) (w : World) (h : RnS w v L) (h' : RnS w u L) (hl : L.length ≤ 100000) (hls : ∀ l ∈ L, l.length ≤ 100000 ∧ ∀ r ∈ l, r.2.2.length ≤ 100000) :
    Calls Try.prog 21 #[v, u] w (BoolR w true) := by
  obtain ⟨a, cap, rfl, hsh⟩ := h
  obtain ⟨a', cap', rfl, hsh'⟩ := h'
  go_enter Try.func21, Try.ntmps21
  go_wp2
  go_loopw [5] (fun i wr => ∃ k : Nat, k ≤ L.length ∧ i = .int .i64 k ∧ Below w.heap.size w wr) (fun i _ => L.length - (intOf i).toNat)
  case atStart => exact ⟨0, by omega, rfl, Below.refl _ _⟩
  case round =>
    rename World => w0
    obtain ⟨k, hk, rfl, hbel⟩ := hrel
    have hsz := hbel.size
    by_cases hlt : k < L.length
    · obtain ⟨r, hr⟩ := getSome hlt
      rcases hsh with rfl | ⟨b, off, rfl, hb, hat⟩
      · simp at hlt
      rcases hsh' with rfl | ⟨b', off', rfl, hb', hat'⟩
      · simp at hlt
      obtain ⟨x, hx0, hws, -⟩ := hat k r hr
      obtain ⟨y, hy0, hws', -⟩ := hat' k r hr
      obtain ⟨q1, q2⟩ := hls r (List.mem_of_getElem? hr)
      have hl1 : b < w0.heap.size := by omega
      have hl2 : b' < w0.heap.size := by omega
      have H := hidM (fun W (hW : Below w0.heap.size w0 W) => eqrows_any x y r W ((hws.below hbel).below hW) ((hws'.below hbel).below hW) q1 q2)
      have hx := (hbel.cell (p := ⟨b, off + k, none⟩) hb).trans hx0
      have hy := (hbel.cell (p := ⟨b', off' + k, none⟩) hb').trans hy0
      have HS := hidM (show ∀ W, Below w0.heap.size w0 W → W.cell? ⟨b, off + k, none⟩ = some x ∧ W.cell? ⟨b', off' + k, none⟩ = some y ∧ Below w0.heap.size w0 W from fun W hW =>
        ⟨(hW.cell (p := ⟨b, _, none⟩) hl1).trans hx, (hW.cell (p := ⟨b', _, none⟩) hl2).trans hy, hW⟩)
      obtain ⟨xa, xc, rfl, -⟩ := id hws
      obtain ⟨za, zc, rfl, -⟩ := id hws'
      clear hat hat' hws hws' hx0 hy0 hr hx hy
      have HBEL := hidM hbel
      go_wp2_with fail
      go_region_held3 (fun W => W.cell? ⟨b, off + k, none⟩ = some (.slice xa r.length xc) ∧ W.cell? ⟨b', off' + k, none⟩ = some (.slice za r.length zc) ∧ Below w0.heap.size w0 W)
        (first | exact HS.out _ (Below.refl _ _).drew | exact HS.out _ (nxt ((Below.refl _ _).drew) hb2))
        (first | (go_at_call 15; refine (H.out _ ((Below.refl _ _).drew)).mono ?_; rintro e W2 ⟨rfl, hb2⟩))
      go_wp2
      go_roundw
      case rel => exact ⟨k + 1, by omega, by go_num, (HBEL.out.trans ((nxt ((Below.refl w0.heap.size w0).drew) hb2).mono hsz))⟩
      case measure => simp [intOf]; omega
    · go_wp2
      go_ret
      exact ⟨rfl, hbel⟩
end Go.Proofs.Yticpaemmdfmbfaa
/- Rows of one's own, written over: thresherlaw0.Rows. -/
namespace Go.Proofs.Yticpaemmdfmbfaa
open Go.RowKit
set_option linter.unusedVariables false

/-- A set's slice: empty, or a row of numbers of the call's own. -/
def SetOk (w : World) (base : Nat) (s : Sl) : Prop := s.2.1 = 0 ∨ ∃ (g : Nat) (cur : Array Value), s.1 = some ⟨g, 0, none⟩ ∧ base ≤ g ∧ w.heap[g]? = some (.cells cur 2 (0, 0)) ∧ s.2.1 ≤ cur.size
theorem SetOk.own {w : World} {base : Nat} {s : Sl} {l : List Int} (h : OwnL w base (slV s) l) : SetOk w base s := by
  obtain ⟨sa, sn, sc⟩ := s
  rcases h.2 with ⟨h1, h2⟩ | ⟨g, cap, cur, h1, hg, hb, hn, hm, hs, ht⟩
  · injection h1 with e1 e2 e3
    exact .inl e2
  · injection h1 with e1 e2 e3
    subst e1 e2
    exact .inr ⟨g, cur, rfl, hg, hb, by simp only; omega⟩
theorem SetOk.keep {w w' : World} {base : Nat} {s : Sl} (h : SetOk w base s) (k : KeepT 2 w w') : SetOk w' base s := by
  rcases h with h | ⟨g, cur, h1, h2, h3, h4⟩
  · exact .inl h
  · exact .inr ⟨g, cur, h1, h2, k g cur h3, h4⟩
theorem SetOk.set {w : World} {base g o : Nat} {cur : Array Value} {s : Sl} {u : Value} (h : SetOk w base s) (hb : w.heap[g]? = some (.cells cur 2 (0, 0))) : SetOk (w.setCell ⟨g, o, none⟩ u) base s := by
  rcases h with h | ⟨g', cur', h1, h2, h3, h4⟩
  · exact .inl h
  · by_cases e : g' = g
    · subst e
      rw [hb] at h3
      injection h3 with h3
      injection h3 with h3
      subst h3
      exact .inr ⟨g', cur.setIfInBounds o u, h1, h2, by simp [World.setCell, Array.getElem?_modify, hb], by simpa using h4⟩
    · refine .inr ⟨g', cur', h1, h2, ?_, h4⟩
      rw [Below.heap_setCell _ _ _ _ e]
      exact h3
theorem keepT_set {T T' : TypeId} (hT : T ≠ T') {w : World} {g o : Nat} {cur : Array Value} {u : Value} (hb : w.heap[g]? = some (.cells cur T' (0, 0))) : KeepT T w (w.setCell ⟨g, o, none⟩ u) := fun g' cur' h => by
  have e : g' ≠ g := fun e => by
    subst e
    rw [hb] at h
    injection h with h
    injection h with _ h
    exact hT h.symm
  rw [Below.heap_setCell _ _ _ _ e]
  exact h
theorem set_type {w : World} {g o : Nat} {cur : Array Value} {T : TypeId} {u : Value} (hb : w.heap[g]? = some (.cells cur T (0, 0))) : (w.setCell ⟨g, o, none⟩ u).heap[g]? = some (.cells (cur.setIfInBounds o u) T (0, 0)) := by
  simp [World.setCell, Array.getElem?_modify, hb]
/-- Nothing below a place has been written. -/
theorem bel_set {w W : World} {B b o : Nat} (h : Below B w W) (hb : B ≤ b) (u : Value) : Below B w (W.setCell ⟨b, o, none⟩ u) := by
  refine ⟨h.os, h.tape, h.output, by simp [World.setCell]; exact h.size, fun k hk => ?_⟩
  rw [Below.heap_setCell _ _ _ _ (by show k ≠ b; omega)]
  exact h.block k hk
/-- A row that holds nothing. -/
abbrev noRaw : Raw := ((0, ⟨#[]⟩), 0, (none, 0, 0))
theorem flatW_none (xs : List Raw) (p : Nat) (x : Raw) (hx : xs[p]? = some x) : flatW (xs.set p noRaw) = ((((flatW xs).set (p * 4) (.int .i64 0)).set (p * 4 + 1) (.string ⟨#[]⟩)).set (p * 4 + 2) (.int .i64 0)).set (p * 4 + 3) (.slice none 0 0) := by
  induction xs generalizing p with
  | nil => simp at hx
  | cons a l ih =>
    cases p with
    | zero => rfl
    | succ p =>
      have hx' : l[p]? = some x := by simpa using hx
      rw [List.set_cons_succ]
      show encW a ++ flatW (l.set p noRaw) = (((((encW a ++ flatW l).set ((p + 1) * 4) (.int .i64 0)).set ((p + 1) * 4 + 1) (.string ⟨#[]⟩)).set ((p + 1) * 4 + 2) (.int .i64 0)).set ((p + 1) * 4 + 3) (.slice none 0 0))
      rw [ih p hx']
      have e0 : (p + 1) * 4 = (encW a).length + (p * 4) := by simp [encW]; omega
      have e1 : (p + 1) * 4 + 1 = (encW a).length + (p * 4 + 1) := by simp [encW]; omega
      have e2 : (p + 1) * 4 + 2 = (encW a).length + (p * 4 + 2) := by simp [encW]; omega
      have e3 : (p + 1) * 4 + 3 = (encW a).length + (p * 4 + 3) := by simp [encW]; omega
      rw [e1, e2, e3, e0, List.set_append_right _ _ (by omega), List.set_append_right _ _ (by omega), List.set_append_right _ _ (by omega), List.set_append_right _ _ (by omega)]
      simp
/-- What lies there while it is written over. -/
structure Wip (w : World) (base : Nat) (g n cap : Nat) (xs : List Raw) : Prop where
  own : OwnX w base (.slice (some ⟨g, 0, none⟩) n cap) xs
  sets : ∀ x ∈ xs, SetOk w base x.2.2
theorem Wip.block {w : World} {base g n cap : Nat} {xs : List Raw} (h : Wip w base g n cap xs) : base ≤ g ∧ n = xs.length ∧ ∃ cur : Array Value, w.heap[g]? = some (.cells cur 67 (0, 0)) ∧ xs.length * 4 ≤ cur.size ∧ cur.toList.take (xs.length * 4) = flatW xs := by
  rcases h.own.2 with ⟨h1, _⟩ | ⟨g', cap', cur, h1, hg, hb, hn, hm, hs, ht⟩
  · cases h1
  · injection h1 with e1 e2 e3
    injection e1 with e1
    injection e1 with e1
    subst e1 e2 e3
    exact ⟨hg, rfl, cur, hb, by omega, ht⟩
theorem Wip.cells {w : World} {base g n cap p : Nat} {xs : List Raw} {x : Raw} (h : Wip w base g n cap xs) (hx : xs[p]? = some x) :
    w.cell? ⟨g, p * 4, none⟩ = some (.int .i64 x.1.1) ∧ w.cell? ⟨g, p * 4 + 1, none⟩ = some (.string x.1.2) ∧ w.cell? ⟨g, p * 4 + 2, none⟩ = some (.int .i64 x.2.1) ∧ w.cell? ⟨g, p * 4 + 3, none⟩ = some (slV x.2.2) ∧ ∀ q, w.frozen? ⟨g, q, none⟩ = false := by
  obtain ⟨-, -, cur, hb, -, -⟩ := h.block
  obtain ⟨q0, q1, q2, q3⟩ := flatW_get xs p x hx
  obtain ⟨-, -, -, hc⟩ := h.own.cell
  exact ⟨hc _ _ q0, hc _ _ q1, hc _ _ q2, hc _ _ q3, fun q => by simp [World.frozen?, hb]⟩
theorem Wip.num {w : World} {base g n cap g2 j : Nat} {xs : List Raw} {u : Value} {cur : Array Value} (h : Wip w base g n cap xs) (hb : w.heap[g2]? = some (.cells cur 2 (0, 0))) : Wip (w.setCell ⟨g2, j, none⟩ u) base g n cap xs :=
  ⟨h.own.keepT (keepT_set (by decide) hb), fun x hx => (h.sets x hx).set hb⟩
theorem Wip.row {w : World} {base g n cap p : Nat} {xs : List Raw} {x : Raw} (h : Wip w base g n cap xs) (hx : xs[p]? = some x) :
    Wip ((((w.setCell ⟨g, p * 4, none⟩ (.int .i64 0)).setCell ⟨g, p * 4 + 1, none⟩ (.string ⟨#[]⟩)).setCell ⟨g, p * 4 + 2, none⟩ (.int .i64 0)).setCell ⟨g, p * 4 + 3, none⟩ (.slice none 0 0)) base g n cap (xs.set p noRaw) := by
  obtain ⟨hg, hn, cur, hb, hs, ht⟩ := h.block
  have b1 := set_type (o := p * 4) (u := .int .i64 0) hb
  have b2 := set_type (o := p * 4 + 1) (u := .string ⟨#[]⟩) b1
  have b3 := set_type (o := p * 4 + 2) (u := .int .i64 0) b2
  have b4 := set_type (o := p * 4 + 3) (u := .slice none 0 0) b3
  refine ⟨?_, fun y hy => ?_⟩
  · rcases h.own.2 with ⟨h1, _⟩ | ⟨g', cap', cur', h1, hg', hb', hn', hm', hs', ht'⟩
    · cases h1
    · injection h1 with e1 e2 e3
      injection e1 with e1
      injection e1 with e1
      subst e1 e2 e3
      rw [hb] at hb'
      injection hb' with hb'
      injection hb' with hb'
      subst hb'
      refine ⟨by rw [flatW_len], .inr ⟨g, cap, _, by rw [List.length_set], hg, b4, by rw [List.length_set]; exact hn', hm', by simp [hs'], ?_⟩⟩
      rw [List.length_set, flatW_none xs p x hx, ← ht]
      simp only [Array.toList_setIfInBounds]
      rw [List.take_set, List.take_set, List.take_set, List.take_set]
  · rcases List.mem_or_eq_of_mem_set hy with hy | rfl
    · exact ((((h.sets y hy).keep (keepT_set (by decide) hb)).keep (keepT_set (by decide) b1)).keep (keepT_set (by decide) b2)).keep (keepT_set (by decide) b3)
    · exact .inl rfl
end Go.Proofs.Yticpaemmdfmbfaa
namespace Go.Proofs.Yticpaemmdfmbfaa
open Go.RowKit
set_option linter.unusedVariables false
set_option maxRecDepth 100000

set_option maxHeartbeats 1600000 in
theorem wipeRows_any (base : Nat) (v : Value) (l : List Rw) (w : World) (h : OwnW w base v l) (hl : l.length ≤ 100000) (hls : ∀ r ∈ l, r.2.2.length ≤ 100000) :
    Calls Try.prog 22 #[v] w fun e w' => e = .returned (.tuple #[]) ∧ Below base w w' := by
  obtain ⟨xs0, hx0, ha0⟩ := h
  have hxl : xs0.length ≤ 100000 := by rw [ha0.1]; exact hl
  rcases hx0.2 with ⟨rfl, h0⟩ | ⟨g, cap, cur, rfl, _⟩
  · go_enter Try.func22, Try.ntmps22
    go_wp2
    go_loop [2] (fun i => i = .int .i64 0) (fun _ => 0)
    case atStart => rfl
    case round =>
      subst hrel
      go_wp2
      go_end0
      exact ⟨rfl, Below.refl _ _⟩
  · have HW := hidM (show Wip w base g xs0.length cap xs0 from ⟨hx0, fun x hx => by
      obtain ⟨i, hi⟩ := List.getElem?_of_mem hx
      obtain ⟨r, hr⟩ := getSome (l := l) (i := i) (by rw [← ha0.1]; exact (List.getElem?_eq_some_iff.1 hi).1)
      exact SetOk.own (ha0.2 i x r hi hr).s⟩)
    have HSL := hidM (show ∀ x ∈ xs0, x.2.2.2.1 ≤ 100000 from fun x hx => by
      obtain ⟨i, hi⟩ := List.getElem?_of_mem hx
      obtain ⟨r, hr⟩ := getSome (l := l) (i := i) (by rw [← ha0.1]; exact (List.getElem?_eq_some_iff.1 hi).1)
      obtain ⟨a, c, e, -⟩ := OwnL.ns (ha0.2 i x r hi hr).s
      injection e with e1 e2 e3
      rw [e2]
      exact hls r (List.mem_of_getElem? hr))
    clear ha0 hx0 hl hls
    generalize xs0.length = n at hxl HW
    go_enter Try.func22, Try.ntmps22
    go_wp2
    go_loopw [2] (fun i wr => ∃ k : Nat, k ≤ n ∧ i = .int .i64 k ∧ Hid (∃ xs : List Raw, Wip wr base g n cap xs ∧ (∀ x ∈ xs, x.2.2.2.1 ≤ 100000) ∧ Below base w wr)) (fun i _ => n - (intOf i).toNat)
    case atStart => exact ⟨0, by omega, rfl, xs0, HW.out, HSL.out, Below.refl _ _⟩
    case round =>
      rename World => w0
      obtain ⟨k, hk, rfl, HH⟩ := hrel
      by_cases hlt : k < n
      · obtain ⟨xs, hw, hsl, hbel⟩ := HH.out
        obtain ⟨-, hn, -⟩ := hw.block
        obtain ⟨⟨⟨ya, yb⟩, yn, sa, sn, sc⟩, hx⟩ := getSome (l := xs) (i := k) (by omega)
        have hsn : sn ≤ 100000 := hsl _ (List.mem_of_getElem? hx)
        have HX := hidM hx
        have HSL2 := hidM hsl
        have hkn0 : (0 : Int) ≤ (k : Int) := by omega
        have hkn : (k : Int) < (n : Int) := by omega
        have HI := hidM (show Wip w0 base g n cap xs ∧ Below base w w0 from ⟨hw, hbel⟩)
        clear hw hbel hsl hn hx HH
        go_wp2
        go_loopw [3] (fun i wr => ∃ j : Nat, j ≤ sn ∧ i = .int .i64 j ∧ Hid (Wip wr base g n cap xs ∧ Below base w wr)) (fun i _ => sn - (intOf i).toNat)
        case atStart => exact ⟨0, by omega, rfl, HI⟩
        case round =>
          rename World => w1
          obtain ⟨j, hj, rfl, HJ⟩ := hrel
          obtain ⟨c0, c1, c2, c3, fz⟩ := HJ.out.1.cells HX.out
          simp only at c0 c1 c2
          replace c3 : w1.cell? ⟨g, k * 4 + 3, none⟩ = some (.slice sa sn sc) := c3
          by_cases hjl : j < sn
          · obtain ⟨g2, cur2, e2, hg2, hb2, hs2⟩ : ∃ (g2 : Nat) (cur2 : Array Value), sa = some ⟨g2, 0, none⟩ ∧ base ≤ g2 ∧ w1.heap[g2]? = some (.cells cur2 2 (0, 0)) ∧ sn ≤ cur2.size := by
              rcases HJ.out.1.sets _ (List.mem_of_getElem? HX.out) with h | h
              · simp only at h; omega
              · exact h
            subst e2
            have hf2 : w1.frozen? ⟨g2, j, none⟩ = false := by simp [World.frozen?, hb2]
            obtain ⟨z, hz⟩ : ∃ z, w1.cell? ⟨g2, j, none⟩ = some z := ⟨cur2[j]'(by omega), by simp only [World.cell?, hb2]; simp [show j < cur2.size by omega]⟩
            have HR := hidM (show Wip (w1.setCell ⟨g2, j, none⟩ (.int .i64 (-99))) base g n cap xs ∧ Below base w (w1.setCell ⟨g2, j, none⟩ (.int .i64 (-99))) from ⟨HJ.out.1.num hb2, bel_set HJ.out.2 hg2 _⟩)
            have hj0 : (0 : Int) ≤ (j : Int) := by omega
            have hjn : (j : Int) < (sn : Int) := by omega
            clear hb2 hs2 HJ HI
            go_wp2
            go_roundw
            case rel => exact ⟨j + 1, by omega, by go_num, HR⟩
            case measure => simp [intOf]; omega
          · have hjl' : sn ≤ j := by omega
            have HR := hidM (HJ.out.1.row HX.out)
            have HB := hidM HJ.out.2
            have hbg := HJ.out.1.block.1
            clear HJ HI
            go_wp2
            go_roundw
            case rel => exact ⟨k + 1, by omega, by go_num, _, HR.out, fun x hx => by
              rcases List.mem_or_eq_of_mem_set hx with hx | rfl
              · exact HSL2.out x hx
              · exact Nat.zero_le _, bel_set (bel_set (bel_set (bel_set HB.out hbg _) hbg _) hbg _) hbg _⟩
            case measure => simp [intOf]; omega
      · have hlt' : n ≤ k := by omega
        obtain ⟨xs, -, -, hbel⟩ := HH.out
        clear HH
        go_wp2
        go_end0
        exact ⟨rfl, hbel⟩
end Go.Proofs.Yticpaemmdfmbfaa
