/- Texts laid together: WCopy, WRuns, WRunsEq. -/
import Derived.Test.YticpaemmdfmbfaaJ32
import Derived.Test.YticpaemmdfmbfaaJ39
import Derived.Test.YticpaemmdfmbfaaJ33
/- Rows copied: CopyRows. -/
namespace Go.Proofs.Yticpaemmdfmbfaa
open Go.RowKit
set_option linter.unusedVariables false
set_option maxRecDepth 100000

set_option maxHeartbeats 1600000 in
theorem copyRows_any (v : Value) (l : List Rw) (w : World) (h : WS w v l) (hl : l.length ≤ 100000) (hls : ∀ r ∈ l, r.2.2.length ≤ 100000) :
    Calls Try.prog 40 #[v] w fun e w' => (∃ v', e = .returned v' ∧ OwnW w' w.heap.size v' l) ∧ Below w.heap.size w w' := by
  obtain ⟨va, vc, rfl, hsh⟩ := h
  go_enter Try.func40, Try.ntmps40
  go_wp2
  go_loopw [3, 4] (fun vo i wr => ∃ k : Nat, k ≤ l.length ∧ i = .int .i64 k ∧ OwnW wr w.heap.size vo (l.take k) ∧ Below w.heap.size w wr) (fun _ i _ => l.length - (intOf i).toNat)
  case atStart => exact ⟨0, by omega, rfl, OwnW.nil _ _, Below.refl _ _⟩
  case round =>
    rename World => w0
    obtain ⟨k, hk, rfl, ho, hbel⟩ := hrel
    have hsz := hbel.size
    by_cases hlt : k < l.length
    · obtain ⟨⟨⟨ya, yb⟩, yn, yl⟩, hy⟩ := getSome hlt
      rcases hsh with rfl | ⟨b, off, rfl, hb, hat⟩
      · simp at hlt
      obtain ⟨c0, c1, c2, s1, p1, c3, n1⟩ := (hat.below hbel hb) k _ hy
      simp only at c0 c1 c2 c3 n1
      have HC := hidM (copyRow_any (ya, yb) yn yl s1 p1 w0 n1 (hls _ (List.mem_of_getElem? hy)))
      obtain ⟨xs, hx, ha⟩ := ho
      have hxl : xs.length = k := by rw [ha.1, List.length_take]; omega
      have hst : ∀ (W : World) (o : Obj), Below W.heap.size W (W.alloc o) := fun W o => (Below.refl _ _).alloc (Nat.le_refl _) _
      have hstep : l.take (k + 1) = l.take k ++ [((ya, yb), (yn, yl))] := by rw [List.take_add_one, hy]; rfl
      have HT := hidM (show ∀ (W2 : World) (s2 : Sl), Below w0.heap.size w0 W2 → OwnL W2 w0.heap.size (slV s2) yl → ∃ v4 W4, (Builtin.append_ #[28, 28] 28 #[u3, .slice (some ⟨W2.heap.size, 0, none⟩) 1 1]).run Try.prog (W2.alloc (.cells #[.int .i64 ya, .string yb, .int .i64 yn, slV s2] 67)) = .ok v4 W4 ∧ OwnW W4 w.heap.size v4 (l.take (k + 1)) ∧ Below w.heap.size w W4 from fun W2 s2 hb2 ho2 => by
        have X3 := (hx.below hb2).below (hst W2 (.cells #[.int .i64 ya, .string yb, .int .i64 yn, slV s2] 67))
        have G3 := nxt hb2 (hst W2 (.cells #[.int .i64 ya, .string yb, .int .i64 yn, slV s2] 67))
        have O3 := ho2.below (hst W2 (.cells #[.int .i64 ya, .string yb, .int .i64 yn, slV s2] 67))
        obtain ⟨v4, W4, u1, X4, u3, -⟩ := append_xs 28 X3 (XS.new W2 ((ya, yb), yn, s2)) (by simp; omega) (by have := G3.size; omega)
        have hk3 := keep_row X3 u3
        refine ⟨v4, W4, u1, ⟨_, X4, ?_⟩, (hbel.trans (G3.mono hsz)).grown u3 (by have := G3.size; omega) (own_row X3)⟩
        rw [hstep]
        exact ((ha.keep (.below G3)).keep hk3).snoc ⟨rfl, rfl, (O3.keep hk3).lower hsz⟩)
      clear hat hbel ha hx hst hstep hy n1
      go_wp2_with (first
        | (go_at_call 56; refine HC.out.mono ?_; rintro e W2 ⟨⟨⟨s2a, s2b, s2c⟩, rfl, ho2⟩, hb2⟩; obtain ⟨v4, W4, u1, hown4, hbel4⟩ := HT.out W2 (s2a, s2b, s2c) hb2 ho2; have U1 := hidM u1; clear u1)
        | (at_builtin; refine wpList_append_run _ rfl _ _ _ rfl _ _ v4 W4 rfl rfl U1.out ?_))
      go_roundw
      case rel => exact ⟨k + 1, by omega, by go_num, hown4, hbel4⟩
      case measure => simp [intOf]; omega
    · have hlt' : l.length ≤ k := by omega
      rw [List.take_of_length_le hlt'] at ho
      go_wp2
      go_ret
      exact ⟨⟨_, rfl, ho⟩, hbel⟩
end Go.Proofs.Yticpaemmdfmbfaa
/- Runs of rows: copied, compared. -/
namespace Go.Proofs.Yticpaemmdfmbfaa
open Go.RowKit
set_option linter.unusedVariables false
set_option maxRecDepth 100000

theorem Try.infoRows : (Try.prog.info? 28).map (fun i => (i.zero, i.size, i.bytes)) = some (some (.slice none 0 0), 1, 24) := by kernel_rfl
/-- All rows of elements of type T stay. -/
def KeepT (T : TypeId) (w w' : World) : Prop := ∀ (g : Nat) (cur : Array Value), w.heap[g]? = some (.cells cur T (0, 0)) → w'.heap[g]? = some (.cells cur T (0, 0))
theorem KeepT.row {T T' : TypeId} (hT : T ≠ T') {W W' : World} {base sz n : Nat} {v : Value} {xs : List Value} (h : W.ownsRow base T' sz v n xs) (hg : W.grownBy W' v.ownBlock) : KeepT T W W' := fun g cur hh => by
  refine (hg.block g (Array.getElem?_eq_some_iff.1 hh).1 (fun e => ?_)).trans hh
  rcases h.2 with ⟨rfl, _⟩ | ⟨g', cap, cur', rfl, _, hb, _⟩
  · simp [Value.ownBlock] at e
  · have : g' = g := by simpa [Value.ownBlock] using e.symm
    subst this
    rw [hb] at hh
    injection hh with hh
    injection hh with _ hh
    exact hT hh.symm
theorem KeepT.below {T : TypeId} {w w' : World} (h : Below w.heap.size w w') : KeepT T w w' := fun g cur hg => by rw [h.block g (Array.getElem?_eq_some_iff.1 hg).1]; exact hg
theorem OwnX.keepT {w w' : World} {base : Nat} {v : Value} {xs : List Raw} (h : OwnX w base v xs) (k : KeepT 67 w w') : OwnX w' base v xs := by
  refine ⟨h.1, ?_⟩
  rcases h.2 with ⟨h1, h2⟩ | ⟨g, cap, cur, h1, h2, h3, h4⟩
  · exact .inl ⟨h1, h2⟩
  · exact .inr ⟨g, cap, cur, h1, h2, k g cur h3, h4⟩
theorem OwnW.keepT {w w' : World} {base : Nat} {v : Value} {l : List Rw} (h : OwnW w base v l) (hs : w.heap.size ≤ w'.heap.size) (k : KeepT 67 w w') (k2 : KeepT 2 w w') : OwnW w' base v l := by
  obtain ⟨xs, h1, h2⟩ := h
  exact ⟨xs, h1.keepT k, h2.keep ⟨hs, k2⟩⟩
/-- v owns the runs L: they, their rows and their sets lie from base on. -/
def OwnRs (w : World) (base : Nat) (v : Value) (L : List (List Rw)) : Prop := ∃ vs, w.ownsRow base 28 1 v vs.length vs ∧ vs.length = L.length ∧ ∀ (i : Nat) (u : Value) (l : List Rw), vs[i]? = some u → L[i]? = some l → OwnW w base u l
theorem OwnRs.nil (w : World) (base : Nat) : OwnRs w base (.slice none 0 0) [] := ⟨[], World.ownsRow_nil _ _ _ _, rfl, fun i u l h => by simp at h⟩
theorem ownsRow_below {w w' : World} {base n sz : Nat} {T : TypeId} {v : Value} {xs : List Value} (h : w.ownsRow base T sz v n xs) (hb : Below w.heap.size w w') : w'.ownsRow base T sz v n xs := by
  refine ⟨h.1, ?_⟩
  rcases h.2 with ⟨h1, h2⟩ | ⟨g, cap, cur, h1, h2, h3, h4⟩
  · exact .inl ⟨h1, h2⟩
  · exact .inr ⟨g, cap, cur, h1, h2, by rw [hb.block g (Array.getElem?_eq_some_iff.1 h3).1]; exact h3, h4⟩
theorem OwnRs.below {w w' : World} {base : Nat} {v : Value} {L : List (List Rw)} (h : OwnRs w base v L) (hb : Below w.heap.size w w') : OwnRs w' base v L := by
  obtain ⟨vs, h1, h2, h3⟩ := h
  exact ⟨vs, ownsRow_below h1 hb, h2, fun i u l hu hl => (h3 i u l hu hl).below hb⟩
theorem OwnW.slice {w : World} {base : Nat} {v : Value} {l : List Rw} (h : OwnW w base v l) : ∃ a c, v = .slice a l.length c := by
  obtain ⟨a, c, e, -⟩ := h.ws
  exact ⟨a, c, e⟩
/-- What the call owns may be read. -/
theorem OwnRs.rns {w : World} {base : Nat} {v : Value} {L : List (List Rw)} (h : OwnRs w base v L) : RnS w v L := by
  obtain ⟨vs, hx, hl, ha⟩ := h
  rcases hx.2 with ⟨rfl, h0⟩ | ⟨g, cap, cur, rfl, _, hb, _, _, _, ht⟩
  · have : vs = [] := List.length_eq_zero_iff.1 h0
    subst this
    have : L = [] := List.length_eq_zero_iff.1 hl.symm
    subst this
    exact ⟨none, 0, rfl, .inl rfl⟩
  · refine ⟨_, cap, by rw [hl], .inr ⟨g, 0, rfl, (Array.getElem?_eq_some_iff.1 hb).1, fun i l hi => ?_⟩⟩
    have hil : i < L.length := (List.getElem?_eq_some_iff.1 hi).1
    obtain ⟨u, hu⟩ := getSome (l := vs) (i := i) (by rw [hl]; exact hil)
    have ho := ha i u l hu hi
    refine ⟨u, ?_, ho.ws, ho.cap⟩
    have h0 := hu
    rw [← ht, List.getElem?_take_of_lt (by omega)] at h0
    rw [Nat.zero_add]
    simp only [World.cell?, hb]
    simpa using h0
/-- One run more. -/
theorem OwnRs.app {W : World} {base b : Nat} {v u : Value} {L : List (List Rw)} {l : List Rw} (ty : TypeId) (h : OwnRs W base v L) (hu : OwnW W base u l) (hc : W.cell? ⟨b, 0, none⟩ = some u) (hl : L.length ≤ 100000) (hb : base ≤ W.heap.size) :
    ∃ v' W', (Builtin.append_ #[22, 22] ty #[v, .slice (some ⟨b, 0, none⟩) 1 1]).run Try.prog W = .ok v' W' ∧ OwnRs W' base v' (L ++ [l]) ∧ W.grownBy W' v.ownBlock ∧ ∀ k, v.ownBlock = some k → base ≤ k := by
  obtain ⟨i0, hi, hz0, hz1, hz2⟩ := info_parts Try.infoRows
  obtain ⟨vs, h1, h2, h3⟩ := h
  obtain ⟨ua, uc, rfl⟩ := hu.slice
  obtain ⟨v', w', hr, q2, q3, _, q5⟩ := run_append_own_at (P := Try.prog) W base 22 ty 28 i0 _ 1 24 Try.underlying22 hi hz0 hz1 hz2 rfl (by decide) v vs.length vs h1 ⟨b, 0, none⟩ 1 1 [.slice ua l.length uc] rfl (fun j u hj => by
    match j, hj with
    | 0, hj => simp at hj; subst hj; rw [Addr.add_lit]; exact hc) (fun u hu => by simp at hu; subst hu; rfl) (by unfold maxLen; omega) (by omega) hb
  have k1 : KeepT 67 W w' := KeepT.row (by decide) h1 q3
  have k2 : KeepT 2 W w' := KeepT.row (by decide) h1 q3
  refine ⟨v', w', hr, ⟨vs ++ [.slice ua l.length uc], by rw [List.length_append]; exact q2, by simp [h2], fun i u l' hu' hl' => ?_⟩, q3, own_row h1⟩
  by_cases hi' : i < vs.length
  · rw [List.getElem?_append_left hi'] at hu'
    rw [List.getElem?_append_left (h2 ▸ hi')] at hl'
    exact (h3 i u l' hu' hl').keepT q3.size k1 k2
  · rw [List.getElem?_append_right (by omega)] at hu'
    rw [List.getElem?_append_right (by omega)] at hl'
    have e : i - vs.length = 0 := by
      have := (List.getElem?_eq_some_iff.1 hu').1
      simp at this
      omega
    rw [e] at hu'
    rw [← h2, e] at hl'
    simp at hu' hl'
    subst hu' hl'
    exact hu.keepT q3.size k1 k2
set_option maxHeartbeats 800000 in
theorem copyRuns_any (v : Value) (L : List (List Rw)) (w : World) (h : RnS w v L) (hl : L.length ≤ 100000) (hls : ∀ l ∈ L, l.length ≤ 100000 ∧ ∀ r ∈ l, r.2.2.length ≤ 100000) :
    Calls Try.prog 18 #[v] w fun e w' => (∃ v', e = .returned v' ∧ OwnRs w' w.heap.size v' L) ∧ Below w.heap.size w w' := by
  obtain ⟨va, vc, rfl, hsh⟩ := h
  go_enter Try.func18, Try.ntmps18
  go_wp2
  go_loopw [3, 4] (fun vo i wr => ∃ k : Nat, k ≤ L.length ∧ i = .int .i64 k ∧ OwnRs wr w.heap.size vo (L.take k) ∧ Below w.heap.size w wr) (fun _ i _ => L.length - (intOf i).toNat)
  case atStart => exact ⟨0, by omega, rfl, OwnRs.nil _ _, Below.refl _ _⟩
  case round =>
    rename World => w0
    obtain ⟨k, hk, rfl, ho, hbel⟩ := hrel
    have hsz := hbel.size
    by_cases hlt : k < L.length
    · obtain ⟨r, hr⟩ := getSome hlt
      rcases hsh with rfl | ⟨b, off, rfl, hb, hat⟩
      · simp at hlt
      obtain ⟨u, hu0, hws, -⟩ := hat k r hr
      have hu := (hbel.cell (p := ⟨b, off + k, none⟩) hb).trans hu0
      obtain ⟨q1, q2⟩ := hls r (List.mem_of_getElem? hr)
      have HC := hidM (copyRows_any u r w0 (hws.below hbel) q1 q2)
      obtain ⟨ua, uc, rfl, -⟩ := id hws
      have hst : ∀ (W : World) (o : Obj), Below W.heap.size W (W.alloc o) := fun W o => (Below.refl _ _).alloc (Nat.le_refl _) _
      have hstep : L.take (k + 1) = L.take k ++ [r] := by rw [List.take_add_one, hr]; rfl
      have HT := hidM (show ∀ (W2 : World) (v2 : Value), Below w0.heap.size w0 W2 → OwnW W2 w0.heap.size v2 r → ∃ v4 W4, (Builtin.append_ #[22, 22] 22 #[u3, .slice (some ⟨W2.heap.size, 0, none⟩) 1 1]).run Try.prog (W2.alloc (.cells #[v2] 28)) = .ok v4 W4 ∧ OwnRs W4 w.heap.size v4 (L.take (k + 1)) ∧ Below w.heap.size w W4 from fun W2 v2 hb2 ho2 => by
        have G3 := nxt hb2 (hst W2 (.cells #[v2] 28))
        have hcell : (W2.alloc (.cells #[v2] 28)).cell? ⟨W2.heap.size, 0, none⟩ = some v2 := by unfold World.cell?; rw [heap_alloc_new W2 _]; rfl
        obtain ⟨v4, W4, u1, u2, u3, u4⟩ := (ho.below G3).app 22 ((ho2.below (hst W2 _)).lower hsz) hcell (by rw [List.length_take]; omega) (by have := G3.size; omega)
        rw [hstep]
        exact ⟨v4, W4, u1, u2, (hbel.trans (G3.mono hsz)).grown u3 (by have := G3.size; omega) u4⟩)
      clear hat hbel ho hst hstep hr hws hu0
      go_wp2_with (first
        | (go_at_call 40; refine HC.out.mono ?_; rintro e W2 ⟨⟨v2, rfl, ho2⟩, hb2⟩; obtain ⟨a2, c2, rfl⟩ := id ho2.slice; obtain ⟨v4, W4, u1, hown4, hbel4⟩ := HT.out W2 _ hb2 ho2; have U1 := hidM u1; clear u1)
        | (at_builtin; refine wpList_append_run _ rfl _ _ _ rfl _ _ v4 W4 rfl rfl U1.out ?_))
      go_roundw
      case rel => exact ⟨k + 1, by omega, by go_num, hown4, hbel4⟩
      case measure => simp [intOf]; omega
    · have hlt' : L.length ≤ k := by omega
      rw [List.take_of_length_le hlt'] at ho
      go_wp2
      go_ret
      exact ⟨⟨_, rfl, ho⟩, hbel⟩
end Go.Proofs.Yticpaemmdfmbfaa
/- Runs of rows compared. -/
namespace Go.Proofs.Yticpaemmdfmbfaa
open Go.RowKit
set_option linter.unusedVariables false
set_option maxRecDepth 100000

set_option maxHeartbeats 1000000 in
theorem eqRuns_any (v u : Value) (L : List (List Rw)) (w : World) (h : RnS w v L) (h' : RnS w u L) (hl : L.length ≤ 100000) (hls : ∀ l ∈ L, l.length ≤ 100000 ∧ ∀ r ∈ l, r.2.2.length ≤ 100000) :
    Calls Try.prog 21 #[v, u] w (BoolR w true) := by
  obtain ⟨a, cap, rfl, hsh⟩ := h
  obtain ⟨a', cap', rfl, hsh'⟩ := h'
  go_enter Try.func21, Try.ntmps21
  go_wp2
  go_loopw [5] (fun i wr => ∃ k : Nat, k ≤ L.length ∧ i = .int .i64 k ∧ Below w.heap.size w wr) (fun i _ => L.length - (intOf i).toNat)
  case atStart => exact ⟨0, by omega, rfl, Below.refl _ _⟩
  case round =>
    rename World => w0
    obtain ⟨k, hk, rfl, hbel⟩ := hrel
    have hsz := hbel.size
    by_cases hlt : k < L.length
    · obtain ⟨r, hr⟩ := getSome hlt
      rcases hsh with rfl | ⟨b, off, rfl, hb, hat⟩
      · simp at hlt
      rcases hsh' with rfl | ⟨b', off', rfl, hb', hat'⟩
      · simp at hlt
      obtain ⟨x, hx0, hws, -⟩ := hat k r hr
      obtain ⟨y, hy0, hws', -⟩ := hat' k r hr
      obtain ⟨q1, q2⟩ := hls r (List.mem_of_getElem? hr)
      have hl1 : b < w0.heap.size := by omega
      have hl2 : b' < w0.heap.size := by omega
      have H := hidM (fun W (hW : Below w0.heap.size w0 W) => eqrows_any x y r W ((hws.below hbel).below hW) ((hws'.below hbel).below hW) q1 q2)
      have hx := (hbel.cell (p := ⟨b, off + k, none⟩) hb).trans hx0
      have hy := (hbel.cell (p := ⟨b', off' + k, none⟩) hb').trans hy0
      have HS := hidM (show ∀ W, Below w0.heap.size w0 W → W.cell? ⟨b, off + k, none⟩ = some x ∧ W.cell? ⟨b', off' + k, none⟩ = some y ∧ Below w0.heap.size w0 W from fun W hW =>
        ⟨(hW.cell (p := ⟨b, _, none⟩) hl1).trans hx, (hW.cell (p := ⟨b', _, none⟩) hl2).trans hy, hW⟩)
      obtain ⟨xa, xc, rfl, -⟩ := id hws
      obtain ⟨za, zc, rfl, -⟩ := id hws'
      clear hat hat' hws hws' hx0 hy0 hr hx hy
      have HBEL := hidM hbel
      go_wp2_with fail
      go_region_held3 (fun W => W.cell? ⟨b, off + k, none⟩ = some (.slice xa r.length xc) ∧ W.cell? ⟨b', off' + k, none⟩ = some (.slice za r.length zc) ∧ Below w0.heap.size w0 W)
        (first | exact HS.out _ (Below.refl _ _).drew | exact HS.out _ (nxt ((Below.refl _ _).drew) hb2))
        (first | (go_at_call 15; refine (H.out _ ((Below.refl _ _).drew)).mono ?_; rintro e W2 ⟨rfl, hb2⟩))
      go_wp2
      go_roundw
      case rel => exact ⟨k + 1, by omega, by go_num, (HBEL.out.trans ((nxt ((Below.refl w0.heap.size w0).drew) hb2).mono hsz))⟩
      case measure => simp [intOf]; omega
    · go_wp2
      go_ret
      exact ⟨rfl, hbel⟩
end Go.Proofs.Yticpaemmdfmbfaa
