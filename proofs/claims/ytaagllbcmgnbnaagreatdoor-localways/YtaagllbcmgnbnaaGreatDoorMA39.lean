/- Texts laid together: WCopy, WJoin, WRuns, MRRun, WJPlain, WChkX, WJoinX. -/
import Derived.Test.YtaagllbcmgnbnaaGreatDoorMA13
import Derived.Test.YtaagllbcmgnbnaaGreatDoorMA26
import Derived.Test.YtaagllbcmgnbnaaGreatDoorMA1
import Derived.Test.YtaagllbcmgnbnaaGreatDoorMA35
/- Rows copied: CopyRows. -/
namespace Go.Proofs.YtaagllbcmgnbnaaGreatDoor
open Go.RowKit
set_option linter.unusedVariables false
set_option maxRecDepth 100000

set_option maxHeartbeats 1600000 in
theorem copyRows_any (v : Value) (l : List Rw) (w : World) (h : WS w v l) (hl : l.length ≤ 100000) (hls : ∀ r ∈ l, r.2.2.length ≤ 100000) :
    Calls Tryz.prog 31 #[v] w fun e w' => (∃ v', e = .returned v' ∧ OwnW w' w.heap.size v' l) ∧ Below w.heap.size w w' := by
  obtain ⟨va, vc, rfl, hsh⟩ := h
  go_enter Tryz.func31, Tryz.ntmps31
  go_wp2
  go_loopw [3, 4] (fun vo i wr => ∃ k : Nat, k ≤ l.length ∧ i = .int .i64 k ∧ OwnW wr w.heap.size vo (l.take k) ∧ Below w.heap.size w wr) (fun _ i _ => l.length - (intOf i).toNat)
  case atStart => exact ⟨0, by omega, rfl, OwnW.nil _ _, Below.refl _ _⟩
  case round =>
    rename World => w0
    obtain ⟨k, hk, rfl, ho, hbel⟩ := hrel
    have hsz := hbel.size
    by_cases hlt : k < l.length
    · obtain ⟨⟨⟨ya, yb⟩, yn, yl⟩, hy⟩ := getSome hlt
      rcases hsh with rfl | ⟨b, off, rfl, hb, hat⟩
      · simp at hlt
      obtain ⟨c0, c1, c2, s1, p1, c3, n1⟩ := (hat.below hbel hb) k _ hy
      simp only at c0 c1 c2 c3 n1
      have HC := hidM (copyRow_any (ya, yb) yn yl s1 p1 w0 n1 (hls _ (List.mem_of_getElem? hy)))
      obtain ⟨xs, hx, ha⟩ := ho
      have hxl : xs.length = k := by rw [ha.1, List.length_take]; omega
      have hst : ∀ (W : World) (o : Obj), Below W.heap.size W (W.alloc o) := fun W o => (Below.refl _ _).alloc (Nat.le_refl _) _
      have hstep : l.take (k + 1) = l.take k ++ [((ya, yb), (yn, yl))] := by rw [List.take_add_one, hy]; rfl
      have HT := hidM (show ∀ (W2 : World) (s2 : Sl), Below w0.heap.size w0 W2 → OwnL W2 w0.heap.size (slV s2) yl → ∃ v4 W4, (Builtin.append_ #[37, 37] 37 #[u3, .slice (some ⟨W2.heap.size, 0, none⟩) 1 1]).run Tryz.prog (W2.alloc (.cells #[.int .i64 ya, .string yb, .int .i64 yn, slV s2] 82)) = .ok v4 W4 ∧ OwnW W4 w.heap.size v4 (l.take (k + 1)) ∧ Below w.heap.size w W4 from fun W2 s2 hb2 ho2 => by
        have X3 := (hx.below hb2).below (hst W2 (.cells #[.int .i64 ya, .string yb, .int .i64 yn, slV s2] 82))
        have G3 := nxt hb2 (hst W2 (.cells #[.int .i64 ya, .string yb, .int .i64 yn, slV s2] 82))
        have O3 := ho2.below (hst W2 (.cells #[.int .i64 ya, .string yb, .int .i64 yn, slV s2] 82))
        obtain ⟨v4, W4, u1, X4, u3, -⟩ := append_xs 37 X3 (XS.new W2 ((ya, yb), yn, s2)) (by simp; omega) (by have := G3.size; omega)
        have hk3 := keep_row X3 u3
        refine ⟨v4, W4, u1, ⟨_, X4, ?_⟩, (hbel.trans (G3.mono hsz)).grown u3 (by have := G3.size; omega) (own_row X3)⟩
        rw [hstep]
        exact ((ha.keep (.below G3)).keep hk3).snoc ⟨rfl, rfl, (O3.keep hk3).lower hsz⟩)
      clear hat hbel ha hx hst hstep hy n1
      go_wp2_with (first
        | (go_at_call 51; refine HC.out.mono ?_; rintro e W2 ⟨⟨⟨s2a, s2b, s2c⟩, rfl, ho2⟩, hb2⟩; obtain ⟨v4, W4, u1, hown4, hbel4⟩ := HT.out W2 (s2a, s2b, s2c) hb2 ho2; have U1 := hidM u1; clear u1)
        | (at_builtin; refine wpList_append_run _ rfl _ _ _ rfl _ _ v4 W4 rfl rfl U1.out ?_))
      go_roundw
      case rel => exact ⟨k + 1, by omega, by go_num, hown4, hbel4⟩
      case measure => simp [intOf]; omega
    · have hlt' : l.length ≤ k := by omega
      rw [List.take_of_length_le hlt'] at ho
      go_wp2
      go_ret
      exact ⟨⟨_, rfl, ho⟩, hbel⟩
end Go.Proofs.YtaagllbcmgnbnaaGreatDoor
/- row.Join of runs that may be. -/
namespace Go.Proofs.YtaagllbcmgnbnaaGreatDoor
open Go.RowKit Go.Maps
set_option linter.unusedVariables false
set_option maxRecDepth 100000

/-- Runs of rows, and none longer than it may be. -/
def RunsC (w : World) (b off : Nat) (L : List (List Rw)) : Prop := ∀ (i : Nat) (l : List Rw), L[i]? = some l → ∃ u, w.cell? ⟨b, off + i, none⟩ = some u ∧ WS w u l ∧ CapOk u
def RnS (w : World) (v : Value) (L : List (List Rw)) : Prop := ∃ a cap, v = .slice a L.length cap ∧ (L = [] ∨ ∃ b off, a = some ⟨b, off, none⟩ ∧ b < w.heap.size ∧ RunsC w b off L)
theorem RunsC.below {w w' : World} {b off B : Nat} {L : List (List Rw)} (h : RunsC w b off L) (hb : Below w.heap.size w w') (hlt : b < w.heap.size) : RunsC w' b off L := fun i l hl => by
  obtain ⟨u, h1, h2, h3⟩ := h i l hl
  exact ⟨u, (hb.cell (p := ⟨b, _, none⟩) hlt).trans h1, h2.below hb, h3⟩
/-- What each run is. -/
structure RunOk (agg bound : Int) (l : List Rw) : Prop where
  ok : okRows agg bound l = true
  cell : ∀ r ∈ l, OkC agg bound r.2
  key : ∀ r ∈ l, Good r.1
theorem flat_snoc {L : List (List Rw)} {k : Nat} {r : List Rw} (hr : L[k]? = some r) : (L.take (k + 1)).flatten = (L.take k).flatten ++ r := by
  rw [List.take_add_one, hr]
  simp
theorem len_mono (J : Cl → Cl → Cl × Int) (a b : List Rw) : (gat J a).1.length ≤ (gat J (a ++ b)).1.length := by
  induction b using snoc_ind with
  | h0 => rw [List.append_nil]; exact Nat.le_refl _
  | h1 b r ih =>
    rw [← List.append_assoc, gat_snoc]
    unfold stepG
    simp only
    rw [len_putR (rise_gat J (a ++ b))]
    split <;> omega
theorem flat_take (L : List (List Rw)) (k : Nat) : ∃ m, L.flatten = (L.take k).flatten ++ m := ⟨(L.drop k).flatten, by rw [← List.flatten_append, List.take_append_drop]⟩
theorem Gat.len_run {w : World} {base gp mp n : Nat} {agg bound : Int} {st : List Rw} {bad : Int} (h : Gat w base gp mp agg bound st bad n) : ∃ D, w.ownsMap Tryz.prog 66 RC mp n D ∧ Maps.size D = st.length := by
  obtain ⟨D, h1, h2⟩ := h.mo
  exact ⟨D, h1, h2.size⟩
theorem gatOk {agg bound : Int} {L : List (List Rw)} (hL : ∀ l ∈ L, RunOk agg bound l) (m : List Rw) (hm : ∀ x ∈ m, ∃ l ∈ L, x ∈ l) : (∀ x c, look (gat (joinC agg bound.toNat) m).1 x = some c → OkC agg bound c) ∧ ∀ r ∈ (gat (joinC agg bound.toNat) m).1, Good r.1 := by
  refine ⟨okC_gat m fun r hr => ?_, fun r hr => ?_⟩
  · obtain ⟨l, hl, hx⟩ := hm r hr
    exact (hL l hl).cell r hx
  · have h1 := mem_look (rise_gat _ m) hr
    obtain ⟨y, hy, e⟩ := (keys_gat (joinC agg bound.toNat) m r.1).1 (by rw [h1]; rfl)
    obtain ⟨l, hl, hx⟩ := hm y hy
    rw [← e]
    exact (hL l hl).key y hx
end Go.Proofs.YtaagllbcmgnbnaaGreatDoor
/- Runs of rows: copied, compared. -/
namespace Go.Proofs.YtaagllbcmgnbnaaGreatDoor
open Go.RowKit
set_option linter.unusedVariables false
set_option maxRecDepth 100000

theorem Tryz.infoRows : (Tryz.prog.info? 37).map (fun i => (i.zero, i.size, i.bytes)) = some (some (.slice none 0 0), 1, 24) := by kernel_rfl
/-- All rows of elements of type T stay. -/
def KeepT (T : TypeId) (w w' : World) : Prop := ∀ (g : Nat) (cur : Array Value), w.heap[g]? = some (.cells cur T (0, 0)) → w'.heap[g]? = some (.cells cur T (0, 0))
theorem KeepT.row {T T' : TypeId} (hT : T ≠ T') {W W' : World} {base sz n : Nat} {v : Value} {xs : List Value} (h : W.ownsRow base T' sz v n xs) (hg : W.grownBy W' v.ownBlock) : KeepT T W W' := fun g cur hh => by
  refine (hg.block g (Array.getElem?_eq_some_iff.1 hh).1 (fun e => ?_)).trans hh
  rcases h.2 with ⟨rfl, _⟩ | ⟨g', cap, cur', rfl, _, hb, _⟩
  · simp [Value.ownBlock] at e
  · have : g' = g := by simpa [Value.ownBlock] using e.symm
    subst this
    rw [hb] at hh
    injection hh with hh
    injection hh with _ hh
    exact hT hh.symm
theorem KeepT.below {T : TypeId} {w w' : World} (h : Below w.heap.size w w') : KeepT T w w' := fun g cur hg => by rw [h.block g (Array.getElem?_eq_some_iff.1 hg).1]; exact hg
theorem OwnX.keepT {w w' : World} {base : Nat} {v : Value} {xs : List Raw} (h : OwnX w base v xs) (k : KeepT 82 w w') : OwnX w' base v xs := by
  refine ⟨h.1, ?_⟩
  rcases h.2 with ⟨h1, h2⟩ | ⟨g, cap, cur, h1, h2, h3, h4⟩
  · exact .inl ⟨h1, h2⟩
  · exact .inr ⟨g, cap, cur, h1, h2, k g cur h3, h4⟩
theorem OwnW.keepT {w w' : World} {base : Nat} {v : Value} {l : List Rw} (h : OwnW w base v l) (hs : w.heap.size ≤ w'.heap.size) (k : KeepT 82 w w') (k2 : KeepT 2 w w') : OwnW w' base v l := by
  obtain ⟨xs, h1, h2⟩ := h
  exact ⟨xs, h1.keepT k, h2.keep ⟨hs, k2⟩⟩
/-- v owns the runs L: they, their rows and their sets lie from base on. -/
def OwnRs (w : World) (base : Nat) (v : Value) (L : List (List Rw)) : Prop := ∃ vs, w.ownsRow base 37 1 v vs.length vs ∧ vs.length = L.length ∧ ∀ (i : Nat) (u : Value) (l : List Rw), vs[i]? = some u → L[i]? = some l → OwnW w base u l
theorem OwnRs.nil (w : World) (base : Nat) : OwnRs w base (.slice none 0 0) [] := ⟨[], World.ownsRow_nil _ _ _ _, rfl, fun i u l h => by simp at h⟩
theorem ownsRow_below {w w' : World} {base n sz : Nat} {T : TypeId} {v : Value} {xs : List Value} (h : w.ownsRow base T sz v n xs) (hb : Below w.heap.size w w') : w'.ownsRow base T sz v n xs := by
  refine ⟨h.1, ?_⟩
  rcases h.2 with ⟨h1, h2⟩ | ⟨g, cap, cur, h1, h2, h3, h4⟩
  · exact .inl ⟨h1, h2⟩
  · exact .inr ⟨g, cap, cur, h1, h2, by rw [hb.block g (Array.getElem?_eq_some_iff.1 h3).1]; exact h3, h4⟩
theorem OwnRs.below {w w' : World} {base : Nat} {v : Value} {L : List (List Rw)} (h : OwnRs w base v L) (hb : Below w.heap.size w w') : OwnRs w' base v L := by
  obtain ⟨vs, h1, h2, h3⟩ := h
  exact ⟨vs, ownsRow_below h1 hb, h2, fun i u l hu hl => (h3 i u l hu hl).below hb⟩
theorem OwnW.slice {w : World} {base : Nat} {v : Value} {l : List Rw} (h : OwnW w base v l) : ∃ a c, v = .slice a l.length c := by
  obtain ⟨a, c, e, -⟩ := h.ws
  exact ⟨a, c, e⟩
/-- What the call owns may be read. -/
theorem OwnRs.rns {w : World} {base : Nat} {v : Value} {L : List (List Rw)} (h : OwnRs w base v L) : RnS w v L := by
  obtain ⟨vs, hx, hl, ha⟩ := h
  rcases hx.2 with ⟨rfl, h0⟩ | ⟨g, cap, cur, rfl, _, hb, _, _, _, ht⟩
  · have : vs = [] := List.length_eq_zero_iff.1 h0
    subst this
    have : L = [] := List.length_eq_zero_iff.1 hl.symm
    subst this
    exact ⟨none, 0, rfl, .inl rfl⟩
  · refine ⟨_, cap, by rw [hl], .inr ⟨g, 0, rfl, (Array.getElem?_eq_some_iff.1 hb).1, fun i l hi => ?_⟩⟩
    have hil : i < L.length := (List.getElem?_eq_some_iff.1 hi).1
    obtain ⟨u, hu⟩ := getSome (l := vs) (i := i) (by rw [hl]; exact hil)
    have ho := ha i u l hu hi
    refine ⟨u, ?_, ho.ws, ho.cap⟩
    have h0 := hu
    rw [← ht, List.getElem?_take_of_lt (by omega)] at h0
    rw [Nat.zero_add]
    simp only [World.cell?, hb]
    simpa using h0
/-- One run more. -/
theorem OwnRs.app {W : World} {base b : Nat} {v u : Value} {L : List (List Rw)} {l : List Rw} (ty : TypeId) (h : OwnRs W base v L) (hu : OwnW W base u l) (hc : W.cell? ⟨b, 0, none⟩ = some u) (hl : L.length ≤ 100000) (hb : base ≤ W.heap.size) :
    ∃ v' W', (Builtin.append_ #[22, 22] ty #[v, .slice (some ⟨b, 0, none⟩) 1 1]).run Tryz.prog W = .ok v' W' ∧ OwnRs W' base v' (L ++ [l]) ∧ W.grownBy W' v.ownBlock ∧ ∀ k, v.ownBlock = some k → base ≤ k := by
  obtain ⟨i0, hi, hz0, hz1, hz2⟩ := info_parts Tryz.infoRows
  obtain ⟨vs, h1, h2, h3⟩ := h
  obtain ⟨ua, uc, rfl⟩ := hu.slice
  obtain ⟨v', w', hr, q2, q3, _, q5⟩ := run_append_own_at (P := Tryz.prog) W base 22 ty 37 i0 _ 1 24 Tryz.underlying22 hi hz0 hz1 hz2 rfl (by decide) v vs.length vs h1 ⟨b, 0, none⟩ 1 1 [.slice ua l.length uc] rfl (fun j u hj => by
    match j, hj with
    | 0, hj => simp at hj; subst hj; rw [Addr.add_lit]; exact hc) (fun u hu => by simp at hu; subst hu; rfl) (by unfold maxLen; omega) (by omega) hb
  have k1 : KeepT 82 W w' := KeepT.row (by decide) h1 q3
  have k2 : KeepT 2 W w' := KeepT.row (by decide) h1 q3
  refine ⟨v', w', hr, ⟨vs ++ [.slice ua l.length uc], by rw [List.length_append]; exact q2, by simp [h2], fun i u l' hu' hl' => ?_⟩, q3, own_row h1⟩
  by_cases hi' : i < vs.length
  · rw [List.getElem?_append_left hi'] at hu'
    rw [List.getElem?_append_left (h2 ▸ hi')] at hl'
    exact (h3 i u l' hu' hl').keepT q3.size k1 k2
  · rw [List.getElem?_append_right (by omega)] at hu'
    rw [List.getElem?_append_right (by omega)] at hl'
    have e : i - vs.length = 0 := by
      have := (List.getElem?_eq_some_iff.1 hu').1
      simp at this
      omega
    rw [e] at hu'
    rw [← h2, e] at hl'
    simp at hu' hl'
    subst hu' hl'
    exact hu.keepT q3.size k1 k2
set_option maxHeartbeats 800000 in
theorem copyRuns_any (v : Value) (L : List (List Rw)) (w : World) (h : RnS w v L) (hl : L.length ≤ 100000) (hls : ∀ l ∈ L, l.length ≤ 100000 ∧ ∀ r ∈ l, r.2.2.length ≤ 100000) :
    Calls Tryz.prog 16 #[v] w fun e w' => (∃ v', e = .returned v' ∧ OwnRs w' w.heap.size v' L) ∧ Below w.heap.size w w' := by
  obtain ⟨va, vc, rfl, hsh⟩ := h
  go_enter Tryz.func16, Tryz.ntmps16
  go_wp2
  go_loopw [3, 4] (fun vo i wr => ∃ k : Nat, k ≤ L.length ∧ i = .int .i64 k ∧ OwnRs wr w.heap.size vo (L.take k) ∧ Below w.heap.size w wr) (fun _ i _ => L.length - (intOf i).toNat)
  case atStart => exact ⟨0, by omega, rfl, OwnRs.nil _ _, Below.refl _ _⟩
  case round =>
    rename World => w0
    obtain ⟨k, hk, rfl, ho, hbel⟩ := hrel
    have hsz := hbel.size
    by_cases hlt : k < L.length
    · obtain ⟨r, hr⟩ := getSome hlt
      rcases hsh with rfl | ⟨b, off, rfl, hb, hat⟩
      · simp at hlt
      obtain ⟨u, hu0, hws, -⟩ := hat k r hr
      have hu := (hbel.cell (p := ⟨b, off + k, none⟩) hb).trans hu0
      obtain ⟨q1, q2⟩ := hls r (List.mem_of_getElem? hr)
      have HC := hidM (copyRows_any u r w0 (hws.below hbel) q1 q2)
      obtain ⟨ua, uc, rfl, -⟩ := id hws
      have hst : ∀ (W : World) (o : Obj), Below W.heap.size W (W.alloc o) := fun W o => (Below.refl _ _).alloc (Nat.le_refl _) _
      have hstep : L.take (k + 1) = L.take k ++ [r] := by rw [List.take_add_one, hr]; rfl
      have HT := hidM (show ∀ (W2 : World) (v2 : Value), Below w0.heap.size w0 W2 → OwnW W2 w0.heap.size v2 r → ∃ v4 W4, (Builtin.append_ #[22, 22] 22 #[u3, .slice (some ⟨W2.heap.size, 0, none⟩) 1 1]).run Tryz.prog (W2.alloc (.cells #[v2] 37)) = .ok v4 W4 ∧ OwnRs W4 w.heap.size v4 (L.take (k + 1)) ∧ Below w.heap.size w W4 from fun W2 v2 hb2 ho2 => by
        have G3 := nxt hb2 (hst W2 (.cells #[v2] 37))
        have hcell : (W2.alloc (.cells #[v2] 37)).cell? ⟨W2.heap.size, 0, none⟩ = some v2 := by unfold World.cell?; rw [heap_alloc_new W2 _]; rfl
        obtain ⟨v4, W4, u1, u2, u3, u4⟩ := (ho.below G3).app 22 ((ho2.below (hst W2 _)).lower hsz) hcell (by rw [List.length_take]; omega) (by have := G3.size; omega)
        rw [hstep]
        exact ⟨v4, W4, u1, u2, (hbel.trans (G3.mono hsz)).grown u3 (by have := G3.size; omega) u4⟩)
      clear hat hbel ho hst hstep hr hws hu0
      go_wp2_with (first
        | (go_at_call 31; refine HC.out.mono ?_; rintro e W2 ⟨⟨v2, rfl, ho2⟩, hb2⟩; obtain ⟨a2, c2, rfl⟩ := id ho2.slice; obtain ⟨v4, W4, u1, hown4, hbel4⟩ := HT.out W2 _ hb2 ho2; have U1 := hidM u1; clear u1)
        | (at_builtin; refine wpList_append_run _ rfl _ _ _ rfl _ _ v4 W4 rfl rfl U1.out ?_))
      go_roundw
      case rel => exact ⟨k + 1, by omega, by go_num, hown4, hbel4⟩
      case measure => simp [intOf]; omega
    · have hlt' : L.length ≤ k := by omega
      rw [List.take_of_length_le hlt'] at ho
      go_wp2
      go_ret
      exact ⟨⟨_, rfl, ho⟩, hbel⟩
end Go.Proofs.YtaagllbcmgnbnaaGreatDoor
/- The page's own Runs. -/
namespace Go.Proofs.YtaagllbcmgnbnaaGreatDoor
open Go.RowKit
set_option linter.unusedVariables false
set_option maxRecDepth 100000

theorem RS.sub {w : World} {b off cap : Nat} {l : List Rc} (h : RS w (.slice (some ⟨b, off, none⟩) l.length cap) l) (i n cap' : Nat) (hi : i < l.length) : RS w (.slice (some ⟨b, off + i * 3, none⟩) ((l.drop i).take n).length cap') ((l.drop i).take n) := by
  obtain ⟨a0, c', e, h⟩ := h
  injection e with e1 e2 e3
  subst e1
  refine ⟨_, cap', rfl, ?_⟩
  rcases h with rfl | ⟨b', off', e, hb, hat⟩
  · simp at hi
  · injection e with e
    injection e with e1 e2
    subst e1 e2
    refine .inr ⟨b, off + i * 3, rfl, hb, fun q r hr => ?_⟩
    have hq : q < n := by have := (List.getElem?_eq_some_iff.1 hr).1; rw [List.length_take] at this; omega
    rw [List.getElem?_take_of_lt hq, List.getElem?_drop] at hr
    have := hat _ _ hr
    rw [show off + (i + q) * 3 = off + i * 3 + q * 3 by omega] at this
    exact this
theorem foldR_err (agg : Int) (bd : Nat) (l : List Rc) : (foldR agg bd l).2 = 0 ∨ (foldR agg bd l).2 = 11 := gat_err agg bd (ones agg l)
/-- All runs so far are folded. -/
def CutsTo (agg : Int) (bd n : Nat) (l : List Rc) (k : Nat) : Prop := ∀ c ∈ cutTo n l k, (foldR agg bd c).2 = 0
theorem CutsTo.start (agg : Int) (bd n : Nat) (l : List Rc) : CutsTo agg bd n l 0 := fun c hc => by simp [cutTo] at hc
theorem CutsTo.step {agg : Int} {bd n : Nat} {l : List Rc} {k : Nat} (h : CutsTo agg bd n l k) (hc : (foldR agg bd ((l.drop (k * n)).take n)).2 = 0) : CutsTo agg bd n l (k + 1) := fun c hm => by
  rw [cutTo_succ] at hm
  rcases List.mem_append.1 hm with hm | hm
  · exact h c hm
  · simp at hm; subst hm; exact hc
theorem CutsTo.fin {agg : Int} {bd n : Nat} {l : List Rc} {k : Nat} (h : CutsTo agg bd n l k) (hn : 1 ≤ n) (hk : k ≤ cutN n l) (hl : l.length ≤ k * n) : runsG agg bd (cutsM n l) = (rowsC agg bd (cutTo n l k), 0) := by
  have e : cutsM n l = cutTo n l k := by unfold cutsM; rw [← cutN_at hn hk hl]
  rw [e]
  exact runsG_ok h
theorem cut_mem {n : Nat} {l : List Rc} {k : Nat} (hn : 1 ≤ n) (h : k * n < l.length) : (l.drop (k * n)).take n ∈ cutsM n l := by
  unfold cutsM cutTo
  exact List.mem_map.2 ⟨k, List.mem_range.2 ((cutN_lt hn).2 h), rfl⟩
theorem rowsC_succ (agg : Int) (bd n : Nat) (l : List Rc) (k : Nat) : rowsC agg bd (cutTo n l (k + 1)) = rowsC agg bd (cutTo n l k) ++ [(foldR agg bd ((l.drop (k * n)).take n)).1] := by rw [cutTo_succ]; simp [rowsC]
theorem cut_size {n : Nat} {l : List Rc} {i : Nat} (h : i < l.length) : ((l.drop i).take n).length = min n (l.length - i) := by simp
theorem run_min_int (P : Program) (ty : TypeId) (w : World) (n m : Int) : (Builtin.min_ #[3, 3] ty #[.int .i64 n, .int .i64 m]).run P w = .ok (.int .i64 (if m < n then m else n)) w := by
  simp [Builtin.min_, Builtin.min2]
theorem wpList_min_run {P : Program} (w : World) {ops : Array Oper} {rest : List Oper} {o : Oper} {a : Act} {Q : Exit → Act → World → Prop} (hgd : o.guard = none) (s x : Operand) (t : TypeId)
    (ho : o.op = .call { callee := .builtin .min, args := #[s, x], argTypes := #[t, t] }) (v u v' : Value) (hs : a.eval s = v) (hx : a.eval x = u)
    (hr : (Builtin.min_ #[t, t] o.type #[v, u]).run P w = .ok v' w) (h : wpList P ops Q rest (a.put o.dst v') w) : wpList P ops Q (o :: rest) a w := by
  refine wpList_plain hgd fun K hK => ?_
  unfold Oper.wp execOp
  simp only [ho, resolve, invoke, builtin, Sem.run_bind, Sem.run_pure, Result.andThen_ok, List.map_toArray, List.map_cons, List.map_nil, hs, hx, hr]
  exact hK _ _ h
theorem app_run {w w0 W1 : World} {v u : Value} {L : List (List Rw)} {l : List Rw} (h : OwnRs w0 w.heap.size v L) (hbel : Below w.heap.size w w0) (hu : OwnW W1 w0.heap.size u l) (hb : Below w0.heap.size w0 W1) (hl : L.length ≤ 100000) :
    ∃ v' W', (Builtin.append_ #[22, 22] 22 #[v, .slice (some ⟨W1.heap.size, 0, none⟩) 1 1]).run Tryz.prog (W1.alloc (.cells #[u] 37)) = .ok v' W' ∧ OwnRs W' w.heap.size v' (L ++ [l]) ∧ Below w.heap.size w W' := by
  have hst : ∀ (W : World) (o : Obj), Below W.heap.size W (W.alloc o) := fun W o => (Below.refl _ _).alloc (Nat.le_refl _) _
  have g := nxt hb (hst W1 (.cells #[u] 37))
  have hc : (W1.alloc (.cells #[u] 37)).cell? ⟨W1.heap.size, 0, none⟩ = some u := by
    unfold World.cell?
    rw [heap_alloc_new W1 _]
    rfl
  have hz := (nxt hbel g).size
  obtain ⟨v', W', q1, q2, q3, q4⟩ := OwnRs.app 22 (h.below g) ((hu.below (hst _ _)).lower hbel.size) hc hl hz
  exact ⟨v', W', q1, q2, (nxt hbel g).grown q3 hz q4⟩
theorem rows_len (agg : Int) (bd n : Nat) (l : List Rc) (k : Nat) : (rowsC agg bd (cutTo n l k)).length = k := by simp [rowsC, cutTo_len]
set_option maxHeartbeats 1600000 in
theorem rruns_any (agg bound : Int) (size : Nat) (a : Option Addr) (cap : Nat) (l : List Rc) (w : World) (h : RS w (.slice a l.length cap) l) (hcap : l.length ≤ cap) (hwf : Wf l) (hl : l.length ≤ 100000) (hw : wayC agg bound = true) (hs1 : 1 ≤ size) (hs2 : size ≤ 9223372036854775807) :
    Calls Tryz.prog 13 #[.int .i64 agg, .int .i64 bound, .int .i64 (size : Int), .slice a l.length cap] w fun e w' => (∃ v', e = .returned (.tuple #[v', .int .i64 (runsG agg bound.toNat (cutsM size l)).2]) ∧ OwnRs w' w.heap.size v' (runsG agg bound.toNat (cutsM size l)).1) ∧ Below w.heap.size w w' := by
  obtain ⟨⟨G1, G2⟩, hG⟩ : ∃ G, G = runsG agg bound.toNat (cutsM size l) := ⟨_, rfl⟩
  rw [← hG]
  simp only
  -- the step that is gone
  obtain ⟨n, hn1, hnm, hGn⟩ : ∃ n : Nat, 1 ≤ n ∧ ((l.length = 0 ∧ n = 1) ∨ (0 < l.length ∧ (n : Int) = min (size : Int) (l.length : Int) ∧ n ≤ size ∧ ∀ i, i < l.length → (l.drop i).take size = (l.drop i).take n)) ∧ (G1, G2) = runsG agg bound.toNat (cutsM n l) := by
    rcases Nat.eq_zero_or_pos l.length with h0 | h0
    · have e : l = [] := List.length_eq_zero_iff.1 h0
      subst e
      refine ⟨1, Nat.le_refl _, .inl ⟨rfl, rfl⟩, hG.trans ?_⟩
      have hz : ∀ m, 1 ≤ m → cutsM m ([] : List Rc) = [] := fun m hm => by
        have : cutN m ([] : List Rc) = 0 := by have := cutN_len (l := ([] : List Rc)) hm; simpa using this
        unfold cutsM
        rw [this]
        rfl
      rw [hz _ hs1, hz 1 (Nat.le_refl _)]
    · by_cases hsl : size ≤ l.length
      · exact ⟨size, hs1, .inr ⟨h0, by omega, Nat.le_refl _, fun i _ => rfl⟩, hG⟩
      · refine ⟨l.length, h0, .inr ⟨h0, by omega, by omega, fun i hi => ?_⟩, hG.trans (by rw [cuts_big h0 (by omega)])⟩
        rw [List.take_of_length_le (by simp; omega), List.take_of_length_le (by simp)]
  have HGN := hidM hGn
  clear hG hGn
  have HFO := hidM (fun (W : World) (v : Value) (c : List Rc) (hv : RS W v c) (hc : ∀ x ∈ c, x ∈ l) (hcl : c.length ≤ 100000) => rfold_any agg bound v c W hv (fun x hx => hwf x (hc x hx)) hcl hw)
  have HN1 := hidM hn1
  have HS := hidM h
  have hszi : (1 : Int) ≤ (size : Int) := by omega
  go_enter Tryz.func13, Tryz.ntmps13
  go_wp2
  go_loopw [10, 11] (fun vo i wr => ∃ (k I : Nat), i = .int .i64 (I : Int) ∧ Hid (I = k * n) ∧ k ≤ cutN n l ∧ Hid (CutsTo agg bound.toNat n l k) ∧ OwnRs wr w.heap.size vo (rowsC agg bound.toNat (cutTo n l k)) ∧ Below w.heap.size w wr) (fun _ i _ => l.length - (intOf i).toNat)
  case atStart => exact ⟨0, 0, rfl, by unfold Hid; omega, Nat.zero_le _, CutsTo.start _ _ _ _, OwnRs.nil _ _, Below.refl _ _⟩
  case round =>
    rename World => w0
    obtain ⟨k, I, rfl, HI, hk, HO, ho, hbel⟩ := hrel
    have HBEL := hidM hbel
    have HOW := hidM ho
    have hkl := cutN_len (l := l) hn1
    by_cases hlt : I < l.length
    · rcases hnm with ⟨h0, -⟩ | ⟨h0, hmin, hns, hcut⟩
      · omega
      have hsh := HS.out
      obtain ⟨a', cap', e, hsh⟩ := hsh
      obtain ⟨rfl, rfl⟩ : a = a' ∧ cap = cap' := by injection e; constructor <;> assumption
      clear e
      rcases hsh with hnil | ⟨b, off, rfl, hb, hat⟩
      · rw [hnil] at hlt; simp at hlt
      have hki0 : (0 : Int) ≤ (I : Int) := by omega
      have hki : (I : Int) < (l.length : Int) := by omega
      obtain ⟨D, hD⟩ : ∃ D : Nat, D = l.length - I := ⟨_, rfl⟩
      have hwr1 : IntKind.i64.wrap ((l.length : Int) - (I : Int)) = (D : Int) := by rw [IntKind.wrap_i64]; omega
      have hwr1' : (l.length : Int) - (I : Int) = (D : Int) := by omega
      obtain ⟨C, hC⟩ : ∃ C, C = (l.drop I).take n := ⟨_, rfl⟩
      obtain ⟨T, hT⟩ : ∃ T : Nat, T = I + C.length := ⟨_, rfl⟩
      have hCl : C.length = min size D := by rw [hC, ← hcut I hlt, cut_size hlt, hD]
      have hne : ¬ cap = I := by omega
      have hRS := hidM (fun (W : World) (hW : Below w.heap.size w W) (c' : Nat) => (RS.sub (HS.out.below hW) I n c' hlt))
      rw [← hC] at hRS
      have HFC := hidM (fun (W : World) (v : Value) (hv : RS W v C) => HFO.out W v C hv (fun x hx => by rw [hC] at hx; exact List.mem_of_mem_drop (List.mem_of_mem_take hx)) (by omega))
      have hTI : T - I = C.length := by omega
      have hTc : (T : Int) ≤ (cap : Int) := by omega
      have hIT : (I : Int) ≤ (T : Int) := by omega
      have hTlen : T ≤ l.length := by omega
      have HTI := hidM hTI
      have hk5 : k ≤ 100000 := by omega
      have hCle : C.length ≤ l.length := by omega
      have HCL := hidM hCl
      by_cases hA : size < D
      · have d6 : decide ((size : Int) < (D : Int)) = true := decide_eq_true (by omega)
        have hwr2 : IntKind.i64.wrap ((I : Int) + (size : Int)) = (T : Int) := by rw [IntKind.wrap_i64]; omega
        have hwr2' : (I : Int) + (size : Int) = (T : Int) := by omega
        have d6' : decide (size < D) = true := decide_eq_true hA
        clear hT hA hTI hCl
        by_cases hf : (foldR agg bound.toNat C).2 = 0
        · have HSTEP := hidM (HO.out.step (by rw [← HI.out, ← hC]; exact hf))
          rw [fin_ok hf] at HFC
          have hrs := rowsC_succ agg bound.toNat n l k
          rw [← HI.out, ← hC] at hrs
          obtain ⟨⟨F1, F2⟩, hF⟩ : ∃ F, F = foldR agg bound.toNat C := ⟨_, rfl⟩
          rw [← hF] at HFC hf hrs
          simp only at HFC hf hrs
          subst hf
          have HRS2 := hidM hrs
          have HK1 := hidM (show I + n = (k + 1) * n by rw [Nat.succ_mul, ← HI.out])
          have HK2 := hidM ((cutN_lt (l := l) HN1.out).2 (show k * n < l.length by rw [← HI.out]; exact hlt))
          have hmi : (if (l.length : Int) < (size : Int) then (l.length : Int) else (size : Int)) = (n : Int) := by split <;> omega
          have hwr3 : IntKind.i64.wrap ((I : Int) + (n : Int)) = ((I + n : Nat) : Int) := by rw [IntKind.wrap_i64]; omega
          have HMIN := hidM hmin
          clear hat HO hk hD hcut hF hrs hC hmin hmi
          go_wp2_with (first
            | (go_at_call 24; refine (HFC.out _ _ (by first | exact hRS.out _ HBEL.out _ | (rw [HTI.out]; exact hRS.out _ HBEL.out _))).mono ?_; rintro e W1 ⟨⟨v1, rfl, ho1⟩, hb1⟩; obtain ⟨v4, W4, q1, q2, q3⟩ := app_run HOW.out HBEL.out ho1 hb1 (by rw [rows_len]; omega); obtain ⟨a1, c1, rfl⟩ := ho1.slice; have U1 := hidM q1; clear q1)
            | (at_builtin; refine wpList_append_run _ rfl _ _ _ rfl _ _ v4 W4 rfl rfl U1.out ?_)
            | (at_builtin; refine wpList_min_run _ rfl _ _ _ rfl _ _ _ rfl rfl (run_min_int _ _ _ _ _) ?_))
          refine ⟨⟨k + 1, I + n, ?_, HK1.out, HK2.out, HSTEP.out, by rw [HRS2.out]; exact q2, q3⟩, ?_⟩
          · rw [← HMIN.out]; simp
          · rw [← HMIN.out]
            simp only [intOf]
            have := HN1.out
            omega
        · have HF := hidM (Prod.mk.inj (HGN.out.trans (runsG_bad (c := C) (by rw [hC, HI.out]; exact cut_mem HN1.out (by rw [← HI.out]; exact hlt)) hf)))
          have h11 := (foldR_err agg bound.toNat C).resolve_left hf
          rw [fin_bad hf, h11] at HFC
          clear hat HO hk hD hcut hf h11 hC
          go_wp2_with (first
            | (go_at_call 24; refine (HFC.out _ _ (by first | exact hRS.out _ HBEL.out _ | (rw [HTI.out]; exact hRS.out _ HBEL.out _))).mono ?_; rintro e W1 ⟨⟨v1, rfl, ho1⟩, hb1⟩; obtain ⟨a1, c1, rfl⟩ := ho1.slice))
          go_ret2
          exact ⟨⟨_, by rw [HF.out.2]; rfl, by rw [HF.out.1]; exact OwnRs.nil _ _⟩, nxt HBEL.out hb1⟩
      · have d6 : decide ((size : Int) < (D : Int)) = false := decide_eq_false (by omega)
        have d6' : decide (size < D) = false := decide_eq_false hA
        have hTl : T = l.length := by omega
        have HTI2 := hidM (show l.length - I = C.length by rw [← hTl]; exact hTI)
        have hIl : (I : Int) ≤ (l.length : Int) := by omega
        have hlc : (l.length : Int) ≤ (cap : Int) := by omega
        clear hT hA hTI hCl hTl
        by_cases hf : (foldR agg bound.toNat C).2 = 0
        · have HSTEP := hidM (HO.out.step (by rw [← HI.out, ← hC]; exact hf))
          rw [fin_ok hf] at HFC
          have hrs := rowsC_succ agg bound.toNat n l k
          rw [← HI.out, ← hC] at hrs
          obtain ⟨⟨F1, F2⟩, hF⟩ : ∃ F, F = foldR agg bound.toNat C := ⟨_, rfl⟩
          rw [← hF] at HFC hf hrs
          simp only at HFC hf hrs
          subst hf
          have HRS2 := hidM hrs
          have HK1 := hidM (show I + n = (k + 1) * n by rw [Nat.succ_mul, ← HI.out])
          have HK2 := hidM ((cutN_lt (l := l) HN1.out).2 (show k * n < l.length by rw [← HI.out]; exact hlt))
          have hmi : (if (l.length : Int) < (size : Int) then (l.length : Int) else (size : Int)) = (n : Int) := by split <;> omega
          have hwr3 : IntKind.i64.wrap ((I : Int) + (n : Int)) = ((I + n : Nat) : Int) := by rw [IntKind.wrap_i64]; omega
          have HMIN := hidM hmin
          clear hat HO hk hD hcut hF hrs hC hmin hmi
          go_wp2_with (first
            | (go_at_call 24; refine (HFC.out _ _ (by first | exact hRS.out _ HBEL.out _ | (rw [HTI2.out]; exact hRS.out _ HBEL.out _))).mono ?_; rintro e W1 ⟨⟨v1, rfl, ho1⟩, hb1⟩; obtain ⟨v4, W4, q1, q2, q3⟩ := app_run HOW.out HBEL.out ho1 hb1 (by rw [rows_len]; omega); obtain ⟨a1, c1, rfl⟩ := ho1.slice; have U1 := hidM q1; clear q1)
            | (at_builtin; refine wpList_append_run _ rfl _ _ _ rfl _ _ v4 W4 rfl rfl U1.out ?_)
            | (at_builtin; refine wpList_min_run _ rfl _ _ _ rfl _ _ _ rfl rfl (run_min_int _ _ _ _ _) ?_))
          refine ⟨⟨k + 1, I + n, ?_, HK1.out, HK2.out, HSTEP.out, by rw [HRS2.out]; exact q2, q3⟩, ?_⟩
          · rw [← HMIN.out]; simp
          · rw [← HMIN.out]
            simp only [intOf]
            have := HN1.out
            omega
        · have HF := hidM (Prod.mk.inj (HGN.out.trans (runsG_bad (c := C) (by rw [hC, HI.out]; exact cut_mem HN1.out (by rw [← HI.out]; exact hlt)) hf)))
          have h11 := (foldR_err agg bound.toNat C).resolve_left hf
          rw [fin_bad hf, h11] at HFC
          clear hat HO hk hD hcut hf h11 hC
          go_wp2_with (first
            | (go_at_call 24; refine (HFC.out _ _ (by first | exact hRS.out _ HBEL.out _ | (rw [HTI2.out]; exact hRS.out _ HBEL.out _))).mono ?_; rintro e W1 ⟨⟨v1, rfl, ho1⟩, hb1⟩; obtain ⟨a1, c1, rfl⟩ := ho1.slice))
          go_ret2
          exact ⟨⟨_, by rw [HF.out.2]; rfl, by rw [HF.out.1]; exact OwnRs.nil _ _⟩, nxt HBEL.out hb1⟩
    · have hlti : ¬ (I : Int) < (l.length : Int) := by omega
      have HF := hidM (Prod.mk.inj (HGN.out.trans (HO.out.fin hn1 hk (by have := HI.out; omega))))
      clear HO
      go_wp2
      go_ret2
      exact ⟨⟨_, by rw [HF.out.2]; rfl, by rw [HF.out.1]; exact ho⟩, hbel⟩
end Go.Proofs.YtaagllbcmgnbnaaGreatDoor
/- What runs of rows come to. -/
namespace Go.Proofs.YtaagllbcmgnbnaaGreatDoor
open Go.RowKit
set_option linter.unusedVariables false
set_option maxRecDepth 100000

def joinRes (agg bound : Int) (L : List (List Rw)) : List Rw × Int :=
  if wayC agg bound && L.all (okRows agg bound) && decide ((gat (joinC agg bound.toNat) L.flatten).1.length ≤ 1536) then fin (gat (joinC agg bound.toNat) L.flatten) else ([], 1)
theorem joinRes_way {agg bound : Int} {L : List (List Rw)} (h : wayC agg bound = false) : joinRes agg bound L = ([], 1) := by unfold joinRes; rw [h, Bool.false_and, Bool.false_and]; rfl
theorem joinRes_bad {agg bound : Int} {L : List (List Rw)} {r : List Rw} (hr : r ∈ L) (h : okRows agg bound r = false) : joinRes agg bound L = ([], 1) := by
  have : L.all (okRows agg bound) = false := by
    cases he : L.all (okRows agg bound) with
    | false => rfl
    | true => rw [List.all_eq_true] at he; rw [he r hr] at h; cases h
  unfold joinRes
  rw [this, Bool.and_false, Bool.false_and]
  rfl
theorem joinRes_big {agg bound : Int} {L : List (List Rw)} {k : Nat} (h : 1536 < (gat (joinC agg bound.toNat) (L.take k).flatten).1.length) : joinRes agg bound L = ([], 1) := by
  obtain ⟨m, hm⟩ := flat_take L k
  have := len_mono (joinC agg bound.toNat) (L.take k).flatten m
  rw [← hm] at this
  unfold joinRes
  rw [decide_eq_false (by omega), Bool.and_false]
  rfl
theorem joinRes_ok {agg bound : Int} {L : List (List Rw)} (hw : wayC agg bound = true) (h : ∀ r ∈ L, okRows agg bound r = true) (hl : (gat (joinC agg bound.toNat) L.flatten).1.length ≤ 1536) : joinRes agg bound L = fin (gat (joinC agg bound.toNat) L.flatten) := by
  unfold joinRes
  rw [hw, List.all_eq_true.2 h, decide_eq_true hl]
  rfl
theorem chk_len {agg bound : Int} {c : Cl} (h : chk agg bound c = true) : c.2.length ≤ 32 := by
  unfold chk at h
  rw [Bool.and_eq_true] at h
  obtain ⟨hw, hm⟩ := h
  by_cases h6 : agg = 6
  · subst h6
    rw [may6, Bool.and_eq_true, Bool.and_eq_true, decide_eq_true_eq, decide_eq_true_eq] at hm
    unfold wayC at hw
    rw [if_pos rfl, decide_eq_true_eq] at hw
    have := hm.1.2
    omega
  · by_cases h2 : agg = 2
    · subst h2
      rw [may2, Bool.and_eq_true, Bool.and_eq_true, decide_eq_true_eq] at hm
      omega
    · rw [mayN h6 h2, decide_eq_true_eq] at hm
      omega
theorem runOk_of {agg bound : Int} {l : List Rw} (h : okRows agg bound l = true) (hw : WfRs l) : RunOk agg bound l := by
  obtain ⟨-, -, h3, -⟩ := okRows_parts h
  exact ⟨h, fun r hr => ⟨(h3 r hr).2, (hw r hr).c, chk_len (h3 r hr).2⟩, fun r hr => ⟨(hw r hr).k.1, by have := (h3 r hr).1; unfold maxLen; omega⟩⟩
end Go.Proofs.YtaagllbcmgnbnaaGreatDoor
/- row.Check: its loop. -/
namespace Go.Proofs.YtaagllbcmgnbnaaGreatDoor
open Go.RowKit
set_option linter.unusedVariables false
set_option maxRecDepth 100000

set_option maxHeartbeats 6400000 in
theorem rcheck_any (agg bound : Int) (v : Value) (l : List Rw) (w : World) (h : WS w v l) (hl : l.length ≤ 100000) (hls : ∀ r ∈ l, r.2.2.length ≤ 100000) (hcap : CapOk v) :
    Calls Tryz.prog 52 #[.int .i64 agg, .int .i64 bound, v] w fun e w' => e = .returned (.int .i64 (errC (okRows agg bound l))) ∧ Below w.heap.size w w' := by
  have H1 := hidM (fun W => rway_any agg bound W)
  have HS := hidM h
  obtain ⟨a, cap, rfl, hsh⟩ := h
  cases hw : wayC agg bound with
  | false =>
    rw [hw] at H1
    rw [show okRows agg bound l = false by unfold okRows; rw [hw, Bool.false_and]]
    go_enter Tryz.func52, Tryz.ntmps52
    go_wp2_with (go_at_call 45; refine (H1.out _).mono ?_; rintro e W1 ⟨rfl, hb1⟩)
    go_ret
    exact ⟨rfl, hb1⟩
  | true =>
    rw [hw] at H1
    go_enter Tryz.func52, Tryz.ntmps52
    go_wp2_with (go_at_call 45; refine (H1.out _).mono ?_; rintro e W1 ⟨rfl, hb1⟩)
    go_loopw [15] (fun i wr => ∃ k : Nat, k ≤ l.length ∧ i = .int .i64 k ∧ OkTo agg bound l k ∧ Below w.heap.size w wr) (fun i _ => l.length - (intOf i).toNat)
    case atStart => exact ⟨0, by omega, rfl, OkTo.start _ _ _, hb1⟩
    case round =>
      clear hb1
      rename World => w0
      obtain ⟨k, hk, rfl, hok, hbel⟩ := hrel
      have hsz := hbel.size
      by_cases hlt : k < l.length
      · obtain ⟨⟨⟨ya, yb⟩, yn, yl⟩, hy⟩ := getSome hlt
        rcases hsh with rfl | ⟨b, off, rfl, hb, hat⟩
        · simp at hlt
        have hyl : yl.length ≤ 100000 := hls _ (List.mem_of_getElem? hy)
        obtain ⟨c0, c1, c2, s1, p1, c3, n1⟩ := (hat.below hbel hb) k _ hy
        simp only at c0 c1 c2 c3 n1
        obtain ⟨Wa, hWa⟩ : ∃ Wa : World, Wa = w0.alloc (.cells #[.int .i64 ya, .string yb, .int .i64 yn, .slice s1 yl.length p1] 82) := ⟨_, rfl⟩
        have hba : Below w0.heap.size w0 Wa := by rw [hWa]; exact (Below.refl _ _).alloc (Nat.le_refl _) _
        have B4 : Blk4 Wa w0.heap.size (.int .i64 ya) (.string yb) (.int .i64 yn) (.slice s1 yl.length p1) := by rw [hWa]; exact Blk4.new w0 _ _ _ _
        have HA := hidM hWa.symm
        have HR := hidM (show ∀ W, Below Wa.heap.size Wa W → W.cell? ⟨w0.heap.size, 0, none⟩ = some (.int .i64 ya) ∧ W.cell? ⟨w0.heap.size, 1, none⟩ = some (.string yb) ∧ W.cell? ⟨w0.heap.size, 2, none⟩ = some (.int .i64 yn) ∧ W.cell? ⟨w0.heap.size, 3, none⟩ = some (.slice s1 yl.length p1) ∧ Below Wa.heap.size Wa W from fun W hW =>
          ⟨(B4.below hW).cells.1, (B4.below hW).cells.2.1, (B4.below hW).cells.2.2.1, (B4.below hW).cells.2.2.2.1, hW⟩)
        have hbw : Below w.heap.size w Wa := hbel.trans (hba.mono hsz)
        have HC1 := hidM (fun W => kcheck_any (ya, yb) W)
        have HC2 := hidM (fun W (hW : Below Wa.heap.size Wa W) => check_any agg bound _ (yn, yl) W ⟨s1, p1, rfl, (n1.below hba).below hW⟩ hyl)
        have HC3 := hidM (fun W (hW : Below Wa.heap.size Wa W) => mayFollow_any (.slice (some ⟨b, off, none⟩) k cap) (l.take k) (ya, yb) W (WS.take (HS.out.below (nxt hbw hW)) k (by omega) cap) (by simp; omega))
        have HBW := hidM hbw
        have hkc : k ≤ cap := Nat.le_trans hk hcap
        have hkl : k ≤ l.length := hk
        have HST := hidM (fun (h1 : yb.size ≤ 64) (h2 : chk agg bound (yn, yl) = true) (h3 : mayFol (l.take k) (ya, yb) = true) => hok.step hy h1 h2 h3)
        have HBAD := hidM (fun (h : ¬ (yb.size ≤ 64 ∧ chk agg bound (yn, yl) = true ∧ mayFol (l.take k) (ya, yb) = true)) => hok.bad hy h)
        clear hWa hbel hat n1 hba hbw B4 hy hok hcap
        by_cases hq1 : yb.size ≤ 64
        · rw [if_pos (show (ya, yb).2.size ≤ 64 from hq1)] at HC1
          cases hq2 : chk agg bound (yn, yl) with
          | true =>
           rw [hq2, show errC true = 0 from rfl] at HC2
           cases hq3 : mayFol (l.take k) (ya, yb) with
           | true =>
            rw [hq3] at HC3
            have HO := hidM (HST.out hq1 hq2 hq3)
            clear hq1 hq2 hq3 HST HBAD
            go_wp2_with fail
            rw [HA.out]
            go_region_held3 (fun W => W.cell? ⟨w0.heap.size, 0, none⟩ = some (.int .i64 ya) ∧ W.cell? ⟨w0.heap.size, 1, none⟩ = some (.string yb) ∧ W.cell? ⟨w0.heap.size, 2, none⟩ = some (.int .i64 yn) ∧ W.cell? ⟨w0.heap.size, 3, none⟩ = some (.slice s1 yl.length p1) ∧ Below Wa.heap.size Wa W)
              (first | exact HR.out _ (Below.refl _ _).drew | exact HR.out _ (nxt (Below.refl Wa.heap.size Wa).drew hb1) | exact HR.out _ (nxt (nxt (Below.refl Wa.heap.size Wa).drew hb1) hb2) | exact HR.out _ (nxt (nxt (nxt (Below.refl Wa.heap.size Wa).drew hb1) hb2) hb3))
              (first
                | (go_at_call 76; refine (HC1.out _).mono ?_; rintro e W1 ⟨rfl, hb1⟩)
                | (go_at_call 75; refine (HC2.out _ (‹_ ∧ _ ∧ _ ∧ _ ∧ Below Wa.heap.size Wa _›).2.2.2.2).mono ?_; rintro e W2 ⟨rfl, hb2⟩)
                | (go_at_call 83; refine (HC3.out _ (‹_ ∧ _ ∧ _ ∧ _ ∧ Below Wa.heap.size Wa _›).2.2.2.2).mono ?_; rintro e W3 ⟨rfl, hb3⟩))
            go_wp2
            go_roundw
            case rel => exact ⟨k + 1, by omega, by go_num, HO.out, nxt HBW.out (nxt (nxt (nxt (Below.refl Wa.heap.size Wa).drew hb1) hb2) hb3)⟩
            case measure => simp [intOf]; omega
           | false =>
            rw [hq3] at HC3
            have HO := hidM (HBAD.out (fun h => by rw [hq3] at h; exact absurd h.2.2 (by decide)))
            clear hq1 hq2 hq3 HST HBAD
            go_wp2_with fail
            rw [HA.out]
            go_region_held3 (fun W => W.cell? ⟨w0.heap.size, 0, none⟩ = some (.int .i64 ya) ∧ W.cell? ⟨w0.heap.size, 1, none⟩ = some (.string yb) ∧ W.cell? ⟨w0.heap.size, 2, none⟩ = some (.int .i64 yn) ∧ W.cell? ⟨w0.heap.size, 3, none⟩ = some (.slice s1 yl.length p1) ∧ Below Wa.heap.size Wa W)
              (first | exact HR.out _ (Below.refl _ _).drew | exact HR.out _ (nxt (Below.refl Wa.heap.size Wa).drew hb1) | exact HR.out _ (nxt (nxt (Below.refl Wa.heap.size Wa).drew hb1) hb2) | exact HR.out _ (nxt (nxt (nxt (Below.refl Wa.heap.size Wa).drew hb1) hb2) hb3))
              (first
                | (go_at_call 76; refine (HC1.out _).mono ?_; rintro e W1 ⟨rfl, hb1⟩)
                | (go_at_call 75; refine (HC2.out _ (‹_ ∧ _ ∧ _ ∧ _ ∧ Below Wa.heap.size Wa _›).2.2.2.2).mono ?_; rintro e W2 ⟨rfl, hb2⟩)
                | (go_at_call 83; refine (HC3.out _ (‹_ ∧ _ ∧ _ ∧ _ ∧ Below Wa.heap.size Wa _›).2.2.2.2).mono ?_; rintro e W3 ⟨rfl, hb3⟩))
            go_wp2
            go_ret
            exact ⟨by rw [HO.out]; rfl, nxt HBW.out (nxt (nxt (nxt (Below.refl Wa.heap.size Wa).drew hb1) hb2) hb3)⟩
          | false =>
            rw [hq2, show errC false = 1 from rfl] at HC2
            have HO := hidM (HBAD.out (fun h => by rw [hq2] at h; exact absurd h.2.1 (by decide)))
            clear hq1 hq2 HST HBAD
            obtain ⟨q0, q1, q2, q3, -⟩ := HR.out Wa (Below.refl _ _)
            go_wp2_with fail
            rw [HA.out]
            refine wp_region_any (by kernel_rfl) ?_
            change wpAny _ _ _ _ _ _ _ (World.drew _)
            refine wpAny_take (i := 0) (oi := { dst := some 20, op := Go.Op.fieldAddr 82 (Go.Operand.tmp 8) 0, type := 0, pos := "row.go:20", after := #[], guard := none }) (v := ?v0y1) rfl (by kernel_rfl) (by kernel_rfl) (by kernel_rfl) (fun _ _ _ h => h) (Or.inl ⟨by rfl, ?h0y1⟩) ?r0y1
            case h0y1 => (intro W; go_simp; try with_reducible rfl)
            simp only [Act.put, List.setIfInBounds_toArray, List.set_cons_zero, List.set_cons_succ]
            refine wpAny_ready (rs := [1]) (by kernel_rfl) (by simp) ?_
            refine AllReady.cons (o := { dst := some 21, op := Go.Op.load 66 (Go.Operand.tmp 20), type := 66, pos := "row.go:20", after := #[{ on := 0, ground := Go.Ground.data }], guard := none }) rfl (fun K hK => ?_) AllReady.nil
            go_simp
            refine hK _ _ ?_
            clear hK K
            try simp only [Act.put, List.setIfInBounds_toArray, List.set_cons_zero, List.set_cons_succ]
            refine wpAny_ready (rs := [2]) (by kernel_rfl) (by simp) ?_
            refine AllReady.cons (o := { dst := some 22, op := Go.Op.call { callee := Go.Callee.value (Go.Operand.func 76), args := #[Go.Operand.tmp 21], argTypes := #[66] }, type := 27, pos := "row.go:20", after := #[{ on := 1, ground := Go.Ground.data }], guard := none }) rfl (fun K hK => ?_) AllReady.nil
            go_simp
            refine (HC1.out _).mono ?_
            rintro e W1 ⟨rfl, hb1⟩
            obtain ⟨r0, r1, r2, r3, -⟩ := HR.out _ (nxt (Below.refl Wa.heap.size Wa).drew hb1)
            refine hK _ _ ?_
            clear hK K
            try simp only [Act.put, List.setIfInBounds_toArray, List.set_cons_zero, List.set_cons_succ]
            refine wpAny_take (i := 3) (oi := { dst := some 23, op := Go.Op.binOp Go.BinOp.neq 27 (Go.Operand.tmp 22) (Go.Operand.const (Go.Value.int Go.IntKind.i64 0)) 27, type := 4, pos := "row.go:20", after := #[{ on := 2, ground := Go.Ground.data }], guard := none }) (v := ?v3y2) rfl (by kernel_rfl) (by kernel_rfl) (by kernel_rfl) (fun _ _ _ h => h) (Or.inl ⟨by rfl, ?h3y2⟩) ?r3y2
            case h3y2 => (intro W; go_simp; try with_reducible rfl)
            simp only [Act.put, List.setIfInBounds_toArray, List.set_cons_zero, List.set_cons_succ]
            refine wpAny_take (i := 4) (oi := { dst := some 24, op := Go.Op.move (Go.Operand.tmp 23), type := 4, pos := "row.go:20", after := #[{ on := 3, ground := Go.Ground.data }, { on := 2, ground := Go.Ground.chain }], guard := none }) (v := ?v4y3) rfl (by kernel_rfl) (by kernel_rfl) (by kernel_rfl) (fun _ _ _ h => h) (Or.inl ⟨by rfl, ?h4y3⟩) ?r4y3
            case h4y3 => (intro W; go_simp; try with_reducible rfl)
            simp only [Act.put, List.setIfInBounds_toArray, List.set_cons_zero, List.set_cons_succ]
            refine wpAny_take (i := 5) (oi := { dst := some 25, op := Go.Op.move (Go.Operand.tmp 0), type := 3, pos := "row.go:20", after := #[{ on := 4, ground := Go.Ground.guard }], guard := some (4, false) }) (v := ?v5y4) rfl (by kernel_rfl) (by kernel_rfl) (by kernel_rfl) (fun _ _ _ h => h) (Or.inl ⟨by rfl, ?h5y4⟩) ?r5y4
            case h5y4 => (intro W; go_simp; try with_reducible rfl)
            simp only [Act.put, List.setIfInBounds_toArray, List.set_cons_zero, List.set_cons_succ]
            refine wpAny_take (i := 6) (oi := { dst := some 26, op := Go.Op.move (Go.Operand.tmp 1), type := 3, pos := "row.go:20", after := #[{ on := 4, ground := Go.Ground.guard }], guard := some (4, false) }) (v := ?v6y5) rfl (by kernel_rfl) (by kernel_rfl) (by kernel_rfl) (fun _ _ _ h => h) (Or.inl ⟨by rfl, ?h6y5⟩) ?r6y5
            case h6y5 => (intro W; go_simp; try with_reducible rfl)
            simp only [Act.put, List.setIfInBounds_toArray, List.set_cons_zero, List.set_cons_succ]
            refine wpAny_take (i := 7) (oi := { dst := some 27, op := Go.Op.fieldAddr 82 (Go.Operand.tmp 8) 1, type := 0, pos := "row.go:20", after := #[{ on := 4, ground := Go.Ground.guard }], guard := some (4, false) }) (v := ?v7y6) rfl (by kernel_rfl) (by kernel_rfl) (by kernel_rfl) (fun _ _ _ h => h) (Or.inl ⟨by rfl, ?h7y6⟩) ?r7y6
            case h7y6 => (intro W; go_simp; try with_reducible rfl)
            simp only [Act.put, List.setIfInBounds_toArray, List.set_cons_zero, List.set_cons_succ]
            refine wpAny_ready (rs := [8]) (by kernel_rfl) (by simp) ?_
            refine AllReady.cons (o := { dst := some 28, op := Go.Op.load 80 (Go.Operand.tmp 27), type := 80, pos := "row.go:20", after := #[{ on := 7, ground := Go.Ground.data }, { on := 4, ground := Go.Ground.guard }], guard := some (4, false) }) rfl (fun K hK => ?_) AllReady.nil
            go_simp
            refine hK _ _ ?_
            clear hK K
            try simp only [Act.put, List.setIfInBounds_toArray, List.set_cons_zero, List.set_cons_succ]
            refine wpAny_ready (rs := [9]) (by kernel_rfl) (by simp) ?_
            refine AllReady.cons (o := { dst := some 29, op := Go.Op.call { callee := Go.Callee.value (Go.Operand.func 75), args := #[Go.Operand.tmp 25, Go.Operand.tmp 26, Go.Operand.tmp 28], argTypes := #[3, 3, 80] }, type := 27, pos := "row.go:20", after := #[{ on := 5, ground := Go.Ground.data }, { on := 6, ground := Go.Ground.data }, { on := 8, ground := Go.Ground.data }, { on := 4, ground := Go.Ground.chain }, { on := 4, ground := Go.Ground.guard }], guard := some (4, false) }) rfl (fun K hK => ?_) AllReady.nil
            go_simp
            refine (HC2.out _ (nxt (Below.refl Wa.heap.size Wa).drew hb1)).mono ?_
            rintro e W2 ⟨rfl, hb2⟩
            refine hK _ _ ?_
            clear hK K
            try simp only [Act.put, List.setIfInBounds_toArray, List.set_cons_zero, List.set_cons_succ]
            refine wpAny_take (i := 10) (oi := { dst := some 30, op := Go.Op.binOp Go.BinOp.neq 27 (Go.Operand.tmp 29) (Go.Operand.const (Go.Value.int Go.IntKind.i64 0)) 27, type := 4, pos := "row.go:20", after := #[{ on := 9, ground := Go.Ground.data }, { on := 4, ground := Go.Ground.guard }], guard := some (4, false) }) (v := ?v10y7) rfl (by kernel_rfl) (by kernel_rfl) (by kernel_rfl) (fun _ _ _ h => h) (Or.inl ⟨by rfl, ?h10y7⟩) ?r10y7
            case h10y7 => (intro W; go_simp; try with_reducible rfl)
            simp only [Act.put, List.setIfInBounds_toArray, List.set_cons_zero, List.set_cons_succ]
            refine wpAny_take (i := 11) (oi := { dst := some 31, op := Go.Op.pick (Go.Operand.tmp 24) (Go.Operand.const (Go.Value.bool true)) (Go.Operand.tmp 30), type := 4, pos := "row.go:20", after := #[{ on := 4, ground := Go.Ground.data }, { on := 10, ground := Go.Ground.data }], guard := none }) (v := ?v11y8) rfl (by kernel_rfl) (by kernel_rfl) (by kernel_rfl) (fun _ _ _ h => h) (Or.inl ⟨by rfl, ?h11y8⟩) ?r11y8
            case h11y8 => (intro W; go_simp; try with_reducible rfl)
            simp only [Act.put, List.setIfInBounds_toArray, List.set_cons_zero, List.set_cons_succ]
            refine wpAny_take (i := 12) (oi := { dst := some 32, op := Go.Op.move (Go.Operand.tmp 31), type := 4, pos := "row.go:20", after := #[{ on := 11, ground := Go.Ground.data }, { on := 9, ground := Go.Ground.chain }], guard := none }) (v := ?v12y9) rfl (by kernel_rfl) (by kernel_rfl) (by kernel_rfl) (fun _ _ _ h => h) (Or.inl ⟨by rfl, ?h12y9⟩) ?r12y9
            case h12y9 => (intro W; go_simp; try with_reducible rfl)
            simp only [Act.put, List.setIfInBounds_toArray, List.set_cons_zero, List.set_cons_succ]
            refine wpAny_take (i := 13) (oi := { dst := some 33, op := Go.Op.move (Go.Operand.tmp 2), type := 37, pos := "row.go:20", after := #[{ on := 12, ground := Go.Ground.guard }], guard := some (12, false) }) (v := undef) rfl (by kernel_rfl) (by kernel_rfl) (by kernel_rfl) (fun _ _ _ h => h) (Or.inr ⟨by rfl, rfl⟩) ?_
            simp only [Act.put, List.setIfInBounds_toArray, List.set_cons_zero, List.set_cons_succ]
            refine wpAny_take (i := 14) (oi := { dst := some 34, op := Go.Op.move (Go.Operand.tmp 7), type := 3, pos := "row.go:20", after := #[{ on := 12, ground := Go.Ground.guard }], guard := some (12, false) }) (v := undef) rfl (by kernel_rfl) (by kernel_rfl) (by kernel_rfl) (fun _ _ _ h => h) (Or.inr ⟨by rfl, rfl⟩) ?_
            simp only [Act.put, List.setIfInBounds_toArray, List.set_cons_zero, List.set_cons_succ]
            refine wpAny_take (i := 15) (oi := { dst := some 35, op := Go.Op.slice 37 (Go.Operand.tmp 33) none (some (Go.Operand.tmp 34)) none, type := 37, pos := "row.go:20", after := #[{ on := 13, ground := Go.Ground.data }, { on := 14, ground := Go.Ground.data }, { on := 12, ground := Go.Ground.guard }], guard := some (12, false) }) (v := undef) rfl (by kernel_rfl) (by kernel_rfl) (by kernel_rfl) (fun _ _ _ h => h) (Or.inr ⟨by rfl, rfl⟩) ?_
            simp only [Act.put, List.setIfInBounds_toArray, List.set_cons_zero, List.set_cons_succ]
            refine wpAny_take (i := 16) (oi := { dst := some 36, op := Go.Op.fieldAddr 82 (Go.Operand.tmp 8) 0, type := 0, pos := "row.go:20", after := #[{ on := 12, ground := Go.Ground.guard }], guard := some (12, false) }) (v := undef) rfl (by kernel_rfl) (by kernel_rfl) (by kernel_rfl) (fun _ _ _ h => h) (Or.inr ⟨by rfl, rfl⟩) ?_
            simp only [Act.put, List.setIfInBounds_toArray, List.set_cons_zero, List.set_cons_succ]
            refine wpAny_take (i := 17) (oi := { dst := some 37, op := Go.Op.load 66 (Go.Operand.tmp 36), type := 66, pos := "row.go:20", after := #[{ on := 16, ground := Go.Ground.data }, { on := 12, ground := Go.Ground.guard }], guard := some (12, false) }) (v := undef) rfl (by kernel_rfl) (by kernel_rfl) (by kernel_rfl) (fun _ _ _ h => h) (Or.inr ⟨by rfl, rfl⟩) ?_
            simp only [Act.put, List.setIfInBounds_toArray, List.set_cons_zero, List.set_cons_succ]
            refine wpAny_take (i := 18) (oi := { dst := some 38, op := Go.Op.call { callee := Go.Callee.value (Go.Operand.func 83), args := #[Go.Operand.tmp 35, Go.Operand.tmp 37], argTypes := #[37, 66] }, type := 4, pos := "row.go:20", after := #[{ on := 15, ground := Go.Ground.data }, { on := 17, ground := Go.Ground.data }, { on := 12, ground := Go.Ground.chain }, { on := 12, ground := Go.Ground.guard }], guard := some (12, false) }) (v := undef) rfl (by kernel_rfl) (by kernel_rfl) (by kernel_rfl) (fun _ _ _ h => h) (Or.inr ⟨by rfl, rfl⟩) ?_
            simp only [Act.put, List.setIfInBounds_toArray, List.set_cons_zero, List.set_cons_succ]
            refine wpAny_take (i := 19) (oi := { dst := some 39, op := Go.Op.unOp Go.UnOp.not 4 (Go.Operand.tmp 38), type := 4, pos := "row.go:20", after := #[{ on := 18, ground := Go.Ground.data }, { on := 12, ground := Go.Ground.guard }], guard := some (12, false) }) (v := undef) rfl (by kernel_rfl) (by kernel_rfl) (by kernel_rfl) (fun _ _ _ h => h) (Or.inr ⟨by rfl, rfl⟩) ?_
            simp only [Act.put, List.setIfInBounds_toArray, List.set_cons_zero, List.set_cons_succ]
            refine wpAny_take (i := 20) (oi := { dst := some 40, op := Go.Op.pick (Go.Operand.tmp 32) (Go.Operand.const (Go.Value.bool true)) (Go.Operand.tmp 39), type := 4, pos := "row.go:20", after := #[{ on := 12, ground := Go.Ground.data }, { on := 19, ground := Go.Ground.data }], guard := none }) (v := ?v20y10) rfl (by kernel_rfl) (by kernel_rfl) (by kernel_rfl) (fun _ _ _ h => h) (Or.inl ⟨by rfl, ?h20y10⟩) ?r20y10
            case h20y10 => (intro W; go_simp; try with_reducible rfl)
            simp only [Act.put, List.setIfInBounds_toArray, List.set_cons_zero, List.set_cons_succ]
            refine wpAny_done (by kernel_rfl) ?_ _
            go_wp2
            go_ret
            exact ⟨by rw [HO.out]; rfl, nxt HBW.out (nxt (nxt (Below.refl Wa.heap.size Wa).drew hb1) hb2)⟩
        · rw [if_neg (show ¬ (ya, yb).2.size ≤ 64 from hq1)] at HC1
          have HO := hidM (HBAD.out (fun h => hq1 h.1))
          clear hq1 HST HBAD
          obtain ⟨q0, q1, q2, q3, -⟩ := HR.out Wa (Below.refl _ _)
          go_wp2_with fail
          rw [HA.out]
          refine wp_region_any (by kernel_rfl) ?_
          change wpAny _ _ _ _ _ _ _ (World.drew _)
          refine wpAny_take (i := 0) (oi := { dst := some 20, op := Go.Op.fieldAddr 82 (Go.Operand.tmp 8) 0, type := 0, pos := "row.go:20", after := #[], guard := none }) (v := ?v0y11) rfl (by kernel_rfl) (by kernel_rfl) (by kernel_rfl) (fun _ _ _ h => h) (Or.inl ⟨by rfl, ?h0y11⟩) ?r0y11
          case h0y11 => (intro W; go_simp; try with_reducible rfl)
          simp only [Act.put, List.setIfInBounds_toArray, List.set_cons_zero, List.set_cons_succ]
          refine wpAny_ready (rs := [1]) (by kernel_rfl) (by simp) ?_
          refine AllReady.cons (o := { dst := some 21, op := Go.Op.load 66 (Go.Operand.tmp 20), type := 66, pos := "row.go:20", after := #[{ on := 0, ground := Go.Ground.data }], guard := none }) rfl (fun K hK => ?_) AllReady.nil
          go_simp
          refine hK _ _ ?_
          clear hK K
          try simp only [Act.put, List.setIfInBounds_toArray, List.set_cons_zero, List.set_cons_succ]
          refine wpAny_ready (rs := [2]) (by kernel_rfl) (by simp) ?_
          refine AllReady.cons (o := { dst := some 22, op := Go.Op.call { callee := Go.Callee.value (Go.Operand.func 76), args := #[Go.Operand.tmp 21], argTypes := #[66] }, type := 27, pos := "row.go:20", after := #[{ on := 1, ground := Go.Ground.data }], guard := none }) rfl (fun K hK => ?_) AllReady.nil
          go_simp
          refine (HC1.out _).mono ?_
          rintro e W1 ⟨rfl, hb1⟩
          obtain ⟨r0, r1, r2, r3, -⟩ := HR.out _ (nxt (Below.refl Wa.heap.size Wa).drew hb1)
          refine hK _ _ ?_
          clear hK K
          try simp only [Act.put, List.setIfInBounds_toArray, List.set_cons_zero, List.set_cons_succ]
          refine wpAny_take (i := 3) (oi := { dst := some 23, op := Go.Op.binOp Go.BinOp.neq 27 (Go.Operand.tmp 22) (Go.Operand.const (Go.Value.int Go.IntKind.i64 0)) 27, type := 4, pos := "row.go:20", after := #[{ on := 2, ground := Go.Ground.data }], guard := none }) (v := ?v3y12) rfl (by kernel_rfl) (by kernel_rfl) (by kernel_rfl) (fun _ _ _ h => h) (Or.inl ⟨by rfl, ?h3y12⟩) ?r3y12
          case h3y12 => (intro W; go_simp; try with_reducible rfl)
          simp only [Act.put, List.setIfInBounds_toArray, List.set_cons_zero, List.set_cons_succ]
          refine wpAny_take (i := 4) (oi := { dst := some 24, op := Go.Op.move (Go.Operand.tmp 23), type := 4, pos := "row.go:20", after := #[{ on := 3, ground := Go.Ground.data }, { on := 2, ground := Go.Ground.chain }], guard := none }) (v := ?v4y13) rfl (by kernel_rfl) (by kernel_rfl) (by kernel_rfl) (fun _ _ _ h => h) (Or.inl ⟨by rfl, ?h4y13⟩) ?r4y13
          case h4y13 => (intro W; go_simp; try with_reducible rfl)
          simp only [Act.put, List.setIfInBounds_toArray, List.set_cons_zero, List.set_cons_succ]
          refine wpAny_take (i := 5) (oi := { dst := some 25, op := Go.Op.move (Go.Operand.tmp 0), type := 3, pos := "row.go:20", after := #[{ on := 4, ground := Go.Ground.guard }], guard := some (4, false) }) (v := undef) rfl (by kernel_rfl) (by kernel_rfl) (by kernel_rfl) (fun _ _ _ h => h) (Or.inr ⟨by rfl, rfl⟩) ?_
          simp only [Act.put, List.setIfInBounds_toArray, List.set_cons_zero, List.set_cons_succ]
          refine wpAny_take (i := 6) (oi := { dst := some 26, op := Go.Op.move (Go.Operand.tmp 1), type := 3, pos := "row.go:20", after := #[{ on := 4, ground := Go.Ground.guard }], guard := some (4, false) }) (v := undef) rfl (by kernel_rfl) (by kernel_rfl) (by kernel_rfl) (fun _ _ _ h => h) (Or.inr ⟨by rfl, rfl⟩) ?_
          simp only [Act.put, List.setIfInBounds_toArray, List.set_cons_zero, List.set_cons_succ]
          refine wpAny_take (i := 7) (oi := { dst := some 27, op := Go.Op.fieldAddr 82 (Go.Operand.tmp 8) 1, type := 0, pos := "row.go:20", after := #[{ on := 4, ground := Go.Ground.guard }], guard := some (4, false) }) (v := undef) rfl (by kernel_rfl) (by kernel_rfl) (by kernel_rfl) (fun _ _ _ h => h) (Or.inr ⟨by rfl, rfl⟩) ?_
          simp only [Act.put, List.setIfInBounds_toArray, List.set_cons_zero, List.set_cons_succ]
          refine wpAny_take (i := 8) (oi := { dst := some 28, op := Go.Op.load 80 (Go.Operand.tmp 27), type := 80, pos := "row.go:20", after := #[{ on := 7, ground := Go.Ground.data }, { on := 4, ground := Go.Ground.guard }], guard := some (4, false) }) (v := undef) rfl (by kernel_rfl) (by kernel_rfl) (by kernel_rfl) (fun _ _ _ h => h) (Or.inr ⟨by rfl, rfl⟩) ?_
          simp only [Act.put, List.setIfInBounds_toArray, List.set_cons_zero, List.set_cons_succ]
          refine wpAny_take (i := 9) (oi := { dst := some 29, op := Go.Op.call { callee := Go.Callee.value (Go.Operand.func 75), args := #[Go.Operand.tmp 25, Go.Operand.tmp 26, Go.Operand.tmp 28], argTypes := #[3, 3, 80] }, type := 27, pos := "row.go:20", after := #[{ on := 5, ground := Go.Ground.data }, { on := 6, ground := Go.Ground.data }, { on := 8, ground := Go.Ground.data }, { on := 4, ground := Go.Ground.chain }, { on := 4, ground := Go.Ground.guard }], guard := some (4, false) }) (v := undef) rfl (by kernel_rfl) (by kernel_rfl) (by kernel_rfl) (fun _ _ _ h => h) (Or.inr ⟨by rfl, rfl⟩) ?_
          simp only [Act.put, List.setIfInBounds_toArray, List.set_cons_zero, List.set_cons_succ]
          refine wpAny_take (i := 10) (oi := { dst := some 30, op := Go.Op.binOp Go.BinOp.neq 27 (Go.Operand.tmp 29) (Go.Operand.const (Go.Value.int Go.IntKind.i64 0)) 27, type := 4, pos := "row.go:20", after := #[{ on := 9, ground := Go.Ground.data }, { on := 4, ground := Go.Ground.guard }], guard := some (4, false) }) (v := undef) rfl (by kernel_rfl) (by kernel_rfl) (by kernel_rfl) (fun _ _ _ h => h) (Or.inr ⟨by rfl, rfl⟩) ?_
          simp only [Act.put, List.setIfInBounds_toArray, List.set_cons_zero, List.set_cons_succ]
          refine wpAny_take (i := 11) (oi := { dst := some 31, op := Go.Op.pick (Go.Operand.tmp 24) (Go.Operand.const (Go.Value.bool true)) (Go.Operand.tmp 30), type := 4, pos := "row.go:20", after := #[{ on := 4, ground := Go.Ground.data }, { on := 10, ground := Go.Ground.data }], guard := none }) (v := ?v11y14) rfl (by kernel_rfl) (by kernel_rfl) (by kernel_rfl) (fun _ _ _ h => h) (Or.inl ⟨by rfl, ?h11y14⟩) ?r11y14
          case h11y14 => (intro W; go_simp; try with_reducible rfl)
          simp only [Act.put, List.setIfInBounds_toArray, List.set_cons_zero, List.set_cons_succ]
          refine wpAny_take (i := 12) (oi := { dst := some 32, op := Go.Op.move (Go.Operand.tmp 31), type := 4, pos := "row.go:20", after := #[{ on := 11, ground := Go.Ground.data }, { on := 9, ground := Go.Ground.chain }], guard := none }) (v := ?v12y15) rfl (by kernel_rfl) (by kernel_rfl) (by kernel_rfl) (fun _ _ _ h => h) (Or.inl ⟨by rfl, ?h12y15⟩) ?r12y15
          case h12y15 => (intro W; go_simp; try with_reducible rfl)
          simp only [Act.put, List.setIfInBounds_toArray, List.set_cons_zero, List.set_cons_succ]
          refine wpAny_take (i := 13) (oi := { dst := some 33, op := Go.Op.move (Go.Operand.tmp 2), type := 37, pos := "row.go:20", after := #[{ on := 12, ground := Go.Ground.guard }], guard := some (12, false) }) (v := undef) rfl (by kernel_rfl) (by kernel_rfl) (by kernel_rfl) (fun _ _ _ h => h) (Or.inr ⟨by rfl, rfl⟩) ?_
          simp only [Act.put, List.setIfInBounds_toArray, List.set_cons_zero, List.set_cons_succ]
          refine wpAny_take (i := 14) (oi := { dst := some 34, op := Go.Op.move (Go.Operand.tmp 7), type := 3, pos := "row.go:20", after := #[{ on := 12, ground := Go.Ground.guard }], guard := some (12, false) }) (v := undef) rfl (by kernel_rfl) (by kernel_rfl) (by kernel_rfl) (fun _ _ _ h => h) (Or.inr ⟨by rfl, rfl⟩) ?_
          simp only [Act.put, List.setIfInBounds_toArray, List.set_cons_zero, List.set_cons_succ]
          refine wpAny_take (i := 15) (oi := { dst := some 35, op := Go.Op.slice 37 (Go.Operand.tmp 33) none (some (Go.Operand.tmp 34)) none, type := 37, pos := "row.go:20", after := #[{ on := 13, ground := Go.Ground.data }, { on := 14, ground := Go.Ground.data }, { on := 12, ground := Go.Ground.guard }], guard := some (12, false) }) (v := undef) rfl (by kernel_rfl) (by kernel_rfl) (by kernel_rfl) (fun _ _ _ h => h) (Or.inr ⟨by rfl, rfl⟩) ?_
          simp only [Act.put, List.setIfInBounds_toArray, List.set_cons_zero, List.set_cons_succ]
          refine wpAny_take (i := 16) (oi := { dst := some 36, op := Go.Op.fieldAddr 82 (Go.Operand.tmp 8) 0, type := 0, pos := "row.go:20", after := #[{ on := 12, ground := Go.Ground.guard }], guard := some (12, false) }) (v := undef) rfl (by kernel_rfl) (by kernel_rfl) (by kernel_rfl) (fun _ _ _ h => h) (Or.inr ⟨by rfl, rfl⟩) ?_
          simp only [Act.put, List.setIfInBounds_toArray, List.set_cons_zero, List.set_cons_succ]
          refine wpAny_take (i := 17) (oi := { dst := some 37, op := Go.Op.load 66 (Go.Operand.tmp 36), type := 66, pos := "row.go:20", after := #[{ on := 16, ground := Go.Ground.data }, { on := 12, ground := Go.Ground.guard }], guard := some (12, false) }) (v := undef) rfl (by kernel_rfl) (by kernel_rfl) (by kernel_rfl) (fun _ _ _ h => h) (Or.inr ⟨by rfl, rfl⟩) ?_
          simp only [Act.put, List.setIfInBounds_toArray, List.set_cons_zero, List.set_cons_succ]
          refine wpAny_take (i := 18) (oi := { dst := some 38, op := Go.Op.call { callee := Go.Callee.value (Go.Operand.func 83), args := #[Go.Operand.tmp 35, Go.Operand.tmp 37], argTypes := #[37, 66] }, type := 4, pos := "row.go:20", after := #[{ on := 15, ground := Go.Ground.data }, { on := 17, ground := Go.Ground.data }, { on := 12, ground := Go.Ground.chain }, { on := 12, ground := Go.Ground.guard }], guard := some (12, false) }) (v := undef) rfl (by kernel_rfl) (by kernel_rfl) (by kernel_rfl) (fun _ _ _ h => h) (Or.inr ⟨by rfl, rfl⟩) ?_
          simp only [Act.put, List.setIfInBounds_toArray, List.set_cons_zero, List.set_cons_succ]
          refine wpAny_take (i := 19) (oi := { dst := some 39, op := Go.Op.unOp Go.UnOp.not 4 (Go.Operand.tmp 38), type := 4, pos := "row.go:20", after := #[{ on := 18, ground := Go.Ground.data }, { on := 12, ground := Go.Ground.guard }], guard := some (12, false) }) (v := undef) rfl (by kernel_rfl) (by kernel_rfl) (by kernel_rfl) (fun _ _ _ h => h) (Or.inr ⟨by rfl, rfl⟩) ?_
          simp only [Act.put, List.setIfInBounds_toArray, List.set_cons_zero, List.set_cons_succ]
          refine wpAny_take (i := 20) (oi := { dst := some 40, op := Go.Op.pick (Go.Operand.tmp 32) (Go.Operand.const (Go.Value.bool true)) (Go.Operand.tmp 39), type := 4, pos := "row.go:20", after := #[{ on := 12, ground := Go.Ground.data }, { on := 19, ground := Go.Ground.data }], guard := none }) (v := ?v20y16) rfl (by kernel_rfl) (by kernel_rfl) (by kernel_rfl) (fun _ _ _ h => h) (Or.inl ⟨by rfl, ?h20y16⟩) ?r20y16
          case h20y16 => (intro W; go_simp; try with_reducible rfl)
          simp only [Act.put, List.setIfInBounds_toArray, List.set_cons_zero, List.set_cons_succ]
          refine wpAny_done (by kernel_rfl) ?_ _
          go_wp2
          go_ret
          exact ⟨by rw [HO.out]; rfl, nxt HBW.out (nxt (Below.refl Wa.heap.size Wa).drew hb1)⟩
      · have hlt' : l.length ≤ k := by omega
        have HF := hidM (hok.fin hw hlt')
        go_wp2
        go_ret
        exact ⟨by rw [HF.out]; rfl, hbel⟩
end Go.Proofs.YtaagllbcmgnbnaaGreatDoor
/- row.Join of whatever runs. -/
namespace Go.Proofs.YtaagllbcmgnbnaaGreatDoor
open Go.RowKit Go.Maps
set_option linter.unusedVariables false
set_option maxRecDepth 100000

set_option maxHeartbeats 2000000 in
theorem joins_anyT (agg bound : Int) (v : Value) (L : List (List Rw)) (w : World) (h : RnS w v L) (hL : ∀ l ∈ L, WfRs l) (hl : L.length ≤ 100000) (hT : ∀ k, (∀ l ∈ L.take k, okRows agg bound l = true) → (L.take k).flatten.length ≤ 900000) (hls : ∀ l ∈ L, l.length ≤ 100000 ∧ ∀ r ∈ l, r.2.2.length ≤ 100000) :
    Calls Tryz.prog 33 #[.int .i64 agg, .int .i64 bound, v] w (RowsR w w.heap.size (joinRes agg bound L)) := by
  have H1 := hidM (fun W => rway_any agg bound W)
  cases hw : wayC agg bound with
  | false =>
    rw [hw] at H1
    rw [joinRes_way hw]
    obtain ⟨va, vc, rfl, -⟩ := h
    go_enter Tryz.func33, Tryz.ntmps33
    go_wp2_with (go_at_call 45; refine (H1.out _).mono ?_; rintro e W1 ⟨rfl, hb1⟩)
    go_ret2
    exact ⟨⟨_, rfl, OwnW.nil _ _⟩, hb1⟩
  | true =>
  rw [hw] at H1
  have H3 := hidM (fun W (hW : w.heap.size ≤ W.heap.size) => newG_any agg bound w.heap.size W hW)
  obtain ⟨va, vc, rfl, hsh⟩ := h
  have HL := hidM hL
  have HLS := hidM hls
  have HWAY := hidM hw
  have HT := hidM hT
  clear hL hls hw hT
  go_enter Tryz.func33, Tryz.ntmps33
  go_wp2_with (go_at_call 45; refine (H1.out _).mono ?_; rintro e W1 ⟨rfl, hb1⟩)
  go_wp2_with (go_at_call 47; refine (H3.out _ hb1.size).mono ?_; rintro e W3 ⟨rfl, hG3, hb3⟩)
  have hb3' := nxt hb1 hb3
  clear hb1 hb3
  generalize W1.heap.size + 1 = gp at hG3 ⊢
  generalize W1.heap.size = mp at hG3
  clear W1 H1 H3
  go_loopw [23] (fun i wr => ∃ k n : Nat, k ≤ L.length ∧ i = .int .i64 k ∧ n ≤ (L.take k).flatten.length ∧ Hid ((∀ l ∈ L.take k, okRows agg bound l = true) ∧ (gat (joinC agg bound.toNat) (L.take k).flatten).1.length ≤ 1536) ∧ Gat wr w.heap.size gp mp agg bound (gat (joinC agg bound.toNat) (L.take k).flatten).1 (gat (joinC agg bound.toNat) (L.take k).flatten).2 n ∧ Below w.heap.size w wr) (fun i _ => L.length - (intOf i).toNat)
  case atStart => exact ⟨0, 0, by omega, rfl, by simp, hidM ⟨fun l hl => by simp at hl, by simp [gat_nil]⟩, hG3, hb3'⟩
  case round =>
    clear hG3 hb3'
    rename World => w0
    obtain ⟨k, n, hk, rfl, hn, HOK, hG, hbel⟩ := hrel
    have hsz := hbel.size
    by_cases hlt : k < L.length
    · obtain ⟨r, hr⟩ := getSome hlt
      rcases hsh with rfl | ⟨b, off, rfl, hb, hat⟩
      · simp at hlt
      have hrm := List.mem_of_getElem? hr
      obtain ⟨u, hu0, hws, hcap⟩ := hat k r hr
      have hu := (hbel.cell (p := ⟨b, off + k, none⟩) hb).trans hu0
      have HC := hidM (rcheck_any agg bound u r w0 (hws.below hbel) (HLS.out r hrm).1 (HLS.out r hrm).2 hcap)
      cases hokr : okRows agg bound r with
      | false =>
        rw [hokr, show errC false = 1 from rfl] at HC
        have HF := hidM (joinRes_bad (agg := agg) (bound := bound) hrm hokr)
        have HBEL := hidM hbel
        obtain ⟨ua, uc, rfl, -⟩ := hws
        clear hat hbel hG hcap HOK hokr
        go_wp2_with (go_at_call 52; refine HC.out.mono ?_; rintro e W1 ⟨rfl, hb1⟩)
        go_ret2
        exact ⟨⟨.slice none 0 0, by rw [HF.out]; rfl, by rw [HF.out]; exact OwnW.nil _ _⟩, nxt HBEL.out hb1⟩
      | true =>
      rw [hokr, show errC true = 0 from rfl] at HC
      have hro := runOk_of hokr (HL.out r hrm)
      have hrl : r.length ≤ 1536 := (okRows_parts hokr).2.1
      have HRO := hidM (show ∀ l ∈ L.take (k + 1), okRows agg bound l = true from fun l hl => by
        rw [List.take_add_one, hr] at hl
        rcases List.mem_append.1 hl with hl | hl
        · exact HOK.out.1 l hl
        · simp at hl; subst hl; exact hokr)
      have HRK := hidM (show ∀ l ∈ L.take (k + 1), RunOk agg bound l from fun l hl => runOk_of (HRO.out l hl) (HL.out l (List.mem_of_mem_take hl)))
      have HMT := hidM (show ∀ x ∈ (L.take k).flatten, ∃ l ∈ L.take (k + 1), x ∈ l from fun x hx => by
        obtain ⟨l, hl, hxl⟩ := List.mem_flatten.1 hx
        exact ⟨l, by rw [List.take_add_one]; exact List.mem_append.2 (.inl hl), hxl⟩)
      have HRM := hidM (show r ∈ L.take (k + 1) by rw [List.take_add_one, hr]; simp)
      clear hokr
      obtain ⟨ua, uc, rfl, hush⟩ := hws
      have hfs := flat_snoc hr
      have HNL := hidM (show n + r.length ≤ (L.take (k + 1)).flatten.length ∧ (L.take (k + 1)).flatten.length ≤ 900000 from ⟨by rw [hfs, List.length_append]; omega, HT.out (k + 1) HRO.out⟩)
      have HBEL := hidM hbel
      have HG := hidM hG
      have HUS := hidM hush
      clear hat hbel hG hush hcap
      go_wp2_with (go_at_call 52; refine HC.out.mono ?_; rintro e W1 ⟨rfl, hb1⟩)
      go_loopw [36] (fun i wr => ∃ q : Nat, q ≤ r.length ∧ i = .int .i64 q ∧ Gat wr w.heap.size gp mp agg bound (gat (joinC agg bound.toNat) ((L.take k).flatten ++ r.take q)).1 (gat (joinC agg bound.toNat) ((L.take k).flatten ++ r.take q)).2 (n + q) ∧ Below w.heap.size w wr) (fun i _ => r.length - (intOf i).toNat)
      case atStart => exact ⟨0, by omega, rfl, by rw [List.take_zero, List.append_nil]; exact HG.out.below hb1, nxt HBEL.out hb1⟩
      case round =>
        clear hb1
        rename World => w2
        obtain ⟨q, hq, rfl, hG, hbel⟩ := hrel
        have hsz2 := hbel.size
        by_cases hql : q < r.length
        · obtain ⟨⟨⟨ya, yb⟩, yn, yl⟩, hy⟩ := getSome hql
          have hym := List.mem_of_getElem? hy
          have hoc := hro.cell _ hym
          have hgo := hro.key _ hym
          rcases HUS.out with rfl | ⟨b2, off2, rfl, hb2, hat2⟩
          · simp at hql
          obtain ⟨c0, c1, c2, s1, p1, c3, n1⟩ := (hat2.below hbel hb2) q _ hy
          simp only at c0 c1 c2 c3 n1 hoc hgo
          have hstep : r.take (q + 1) = r.take q ++ [((ya, yb), (yn, yl))] := by rw [List.take_add_one, hy]; rfl
          obtain ⟨Wa, hWa⟩ : ∃ Wa : World, Wa = w2.alloc (.cells #[.int .i64 ya, .string yb, .int .i64 yn, .slice s1 yl.length p1] 82) := ⟨_, rfl⟩
          have hba : Below w2.heap.size w2 Wa := by rw [hWa]; exact (Below.refl _ _).alloc (Nat.le_refl _) _
          have B4 : Blk4 Wa w2.heap.size (.int .i64 ya) (.string yb) (.int .i64 yn) (.slice s1 yl.length p1) := by rw [hWa]; exact Blk4.new w2 _ _ _ _
          obtain ⟨a0, a1, a2, a3, -⟩ := B4.cells
          have HA := hidM hWa.symm
          obtain ⟨gk1, gk2⟩ := gatOk HRK.out ((L.take k).flatten ++ r.take q) (fun x hx => by
            rcases List.mem_append.1 hx with hx | hx
            · exact HMT.out x hx
            · exact ⟨r, HRM.out, List.mem_of_mem_take hx⟩)
          have HAD := hidM (add_any gp mp w.heap.size (n + q) agg bound _ ((ya, yb), (yn, yl)) _ Wa (hG.below hba) (Nat.le_trans hsz2 hba.size) (by have := HNL.out; omega) hgo ⟨s1, p1, rfl, n1.below hba⟩ hoc.2.2 (rise_gat _ _) hoc.1 hoc.2.1 gk1)
          rw [← gat_snoc, List.append_assoc, ← hstep] at HAD
          have HBW := hidM (hbel.trans (hba.mono hsz2))
          clear hWa hba B4 hG hbel hat2 n1 gk1 gk2 hoc hgo hstep hy hym
          go_wp2_with (go_at_call 49; rw [HA.out]; refine HAD.out.mono ?_; rintro e W7 ⟨rfl, hG7, hb7⟩)
          go_roundw
          case rel => exact ⟨q + 1, by omega, by go_num, hG7, HBW.out.trans hb7⟩
          case measure => simp [intOf]; omega
        · have hql' : r.length ≤ q := by omega
          rw [List.take_of_length_le hql', ← hfs] at hG
          obtain ⟨D, hom, hDs⟩ := hG.len_run
          obtain ⟨z, hz⟩ : ∃ z, z = (gat (joinC agg bound.toNat) (L.take (k + 1)).flatten).1.length := ⟨_, rfl⟩
          rw [← hz] at hDs
          have HZ := hidM hz
          by_cases hle : 1536 < z
          · have hzi : (1536 : Int) < (z : Int) := by omega
            have HF := hidM (joinRes_big (agg := agg) (bound := bound) (L := L) (k := k + 1) (by omega))
            obtain ⟨x0, x1, x2, x3, x4⟩ := hG.cells
            have HB2 := hidM hbel
            have HOM := hidM hom
            have HDS := hidM hDs
            clear hG hbel hom hDs hz
            go_wp2_with (at_len; refine wpList_len_own _ rfl _ 102 rfl 66 80 Tryz.underlying102 RC mp _ D rfl HOM.out ?_; rw [HDS.out])
            go_ret2
            exact ⟨⟨.slice none 0 0, by rw [HF.out]; rfl, by rw [HF.out]; exact OwnW.nil _ _⟩, HB2.out⟩
          · have hzi : ¬ ((1536 : Int) < (z : Int)) := by omega
            have HOK2 := hidM (show (∀ l ∈ L.take (k + 1), okRows agg bound l = true) ∧ (gat (joinC agg bound.toNat) (L.take (k + 1)).flatten).1.length ≤ 1536 from ⟨HRO.out, by have := HZ.out; omega⟩)
            obtain ⟨x0, x1, x2, x3, x4⟩ := hG.cells
            have HG2 := hidM hG
            have HB2 := hidM hbel
            have HOM := hidM hom
            have HDS := hidM hDs
            clear hG hbel hom hDs hz
            go_wp2_with (at_len; refine wpList_len_own _ rfl _ 102 rfl 66 80 Tryz.underlying102 RC mp _ D rfl HOM.out ?_; rw [HDS.out])
            go_roundw
            case rel => exact ⟨k + 1, n + q, by omega, by go_num, by have := HNL.out; omega, HOK2, HG2.out, HB2.out⟩
            case measure => simp [intOf]; omega
    · have hlt' : L.length ≤ k := by omega
      have HOKL := hidM HOK.out
      rw [List.take_of_length_le hlt'] at hG HOKL
      have HF := hidM (joinRes_ok HWAY.out HOKL.out.1 HOKL.out.2)
      obtain ⟨gk1, gk2⟩ := gatOk (fun l hl => runOk_of (HOKL.out.1 l hl) (HL.out l hl)) L.flatten (fun x hx => List.mem_flatten.1 hx)
      have HR := hidM (rows_any gp mp w.heap.size n agg bound _ w0 hG hsz (rise_gat _ _) gk2 (by have := HOKL.out.2; omega))
      have HBEL := hidM hbel
      clear hG hbel gk1 gk2
      go_wp2_with (go_at_call 50; refine HR.out.mono ?_; rintro e w' ⟨⟨v', rfl, ho⟩, hb'⟩)
      go_ret2
      exact ⟨⟨v', by rw [HF.out]; rfl, by rw [HF.out]; exact ho⟩, HBEL.out.trans hb'⟩
end Go.Proofs.YtaagllbcmgnbnaaGreatDoor
