/- Texts laid together: GCat, GWay. -/
import Derived.Test.YticpaemmdfmbfaaJ14
import Derived.Lib.AppendZeros
import Derived.Laws.OwnMore
import Derived.Test.YticpaemmdfmbfaaJ9
/- slices.Grow and slices.Concat: a row of the call's own that holds both, one behind the other. -/
namespace Go.Proofs.Yticpaemmdfmbfaa
open Go.RowKit
set_option linter.unusedVariables false
set_option maxRecDepth 100000

/-- Numbers, appended onto a row of the call's own. -/
theorem append_ns {W : World} {base : Nat} {v u : Value} {l m : List Int} (ty : TypeId) (hown : OwnL W base v l) (hns : NS W u m) (hl : l.length + m.length ≤ 1000000) (hb : base ≤ W.heap.size) :
    ∃ v' W', (Builtin.append_ #[58, 58] ty #[v, u]).run Try.prog W = .ok v' W' ∧ OwnL W' base v' (l ++ m) ∧ W.grownBy W' v.ownBlock ∧ (v'.ownBlock = v.ownBlock ∨ v'.ownBlock = some W.heap.size) := by
  obtain ⟨i0, hi, hz0, hz1, hz2⟩ := info_parts Try.info2
  obtain ⟨a, cap, rfl, h⟩ := hns
  have go : ∀ (ad : Addr) (news : List Value), news = m.map (Value.int .i64) → (∀ j u, news[j]? = some u → W.cell? (ad.add j) = some u) → ∃ v' W', (Builtin.append_ #[58, 58] ty #[v, .slice (some ad) m.length cap]).run Try.prog W = .ok v' W' ∧ OwnL W' base v' (l ++ m) ∧ W.grownBy W' v.ownBlock ∧ (v'.ownBlock = v.ownBlock ∨ v'.ownBlock = some W.heap.size) := by
    intro ad news hn hc
    obtain ⟨v', w', hr, h2, h3, _, h5⟩ := run_append_own_at (P := Try.prog) W base 58 ty 2 i0 _ 1 8 Try.underlying58 hi hz0 hz1 hz2 rfl (by decide) v l.length (l.map (Value.int .i64)) hown ad m.length cap news (by subst hn; simp) hc (by subst hn; intro u hu; obtain ⟨x, _, rfl⟩ := List.mem_map.1 hu; rfl) (by unfold maxLen; omega) (by omega) hb
    refine ⟨v', w', hr, ?_, h3, h5⟩
    subst hn
    unfold OwnL
    rw [List.map_append, List.length_append]
    exact h2
  rcases h with rfl | ⟨b, off, rfl, hb, hat⟩
  · cases a with
    | none =>
      refine ⟨v, W, ?_, by rw [List.append_nil]; exact hown, World.grownBy.refl _ _, .inl rfl⟩
      rcases hown.2 with ⟨rfl, h0⟩ | ⟨g, cap', cur, rfl, _, _, hnc, _⟩
      · simp [Builtin.append_, run_underlying Try.underlying58, sizeOf, typeInfo, hi, Builtin.lenOf, Builtin.firstCells]
      · simp [Builtin.append_, run_underlying Try.underlying58, sizeOf, typeInfo, hi, Builtin.lenOf, Builtin.firstCells, hnc, storeCells]
    | some ad => exact go ad [] rfl (fun j u hj => by simp at hj)
  · refine go ⟨b, off, none⟩ _ rfl fun j u hj => ?_
    rw [Addr.add_lit]
    rw [List.getElem?_map] at hj
    cases hm : m[j]? with
    | none => rw [hm] at hj; cases hj
    | some x =>
      rw [hm] at hj
      injection hj with hj
      subst hj
      exact hat j x hm
theorem grow_any (n : Nat) (w : World) (hn : n ≤ 200000) : Calls Try.prog 103 #[.slice none 0 0, .int .i64 (n : Int)] w fun e w' => (∃ v', e = .returned v' ∧ OwnL w' w.heap.size v' []) ∧ Below w.heap.size w w' := by
  by_cases h0 : n = 0
  · subst h0
    go_enter Try.func103, Try.ntmps103
    go_wp2
    go_ret
    exact ⟨⟨_, rfl, OwnL.nil _ _⟩, Below.refl _ _⟩
  · obtain ⟨i0, hi, hz0, hz1, hz2⟩ := info_parts Try.info2
    have hr := fun ty => Lib.run_append_nil_zeros (P := Try.prog) w 58 3 ty 2 i0 _ .i64 .i64 Try.underlying58 Try.underlying3 hi hz0 n (by omega) (by rw [hz1]; decide) (by omega) (by rw [hz2]; omega)
    have c1 := grownCap_ge w n 0 2
    have c2 := grownCap_le_maxLen w n 0 2 (by unfold maxLen; omega)
    generalize grownCap w n 0 2 = c at *
    have hown : ((w.drew).alloc (.cells (Builtin.zeroCells (Value.int .i64 0).cells n ++ Builtin.zeroCells (Value.int .i64 0).cells (c - n)) 2)).ownsRow w.heap.size 2 1 (.slice (some ⟨w.heap.size, 0, none⟩) 0 c) 0 [] := World.ownsRow_made w.drew _ c (Nat.le_refl _) c2 (by rw [Array.size_append, size_zeroCells, size_zeroCells]; show n * 1 + (c - n) * 1 = c * 1; omega)
    have hbl : Below w.heap.size w ((w.drew).alloc (.cells (Builtin.zeroCells (Value.int .i64 0).cells n ++ Builtin.zeroCells (Value.int .i64 0).cells (c - n)) 2)) := (Below.refl _ w).drew.alloc (by simp) _
    have HO := hidM hown
    have HL := hidM hbl
    have HR := hidM hr
    clear hr hown hbl
    generalize (w.drew).alloc (.cells (Builtin.zeroCells (Value.int .i64 0).cells n ++ Builtin.zeroCells (Value.int .i64 0).cells (c - n)) 2) = W at *
    have h1 : (0 : Int) < n := by omega
    have h2 : (0 : Int) ≤ (c : Int) := by omega
    unfold maxLen at c2
    go_enter Try.func103, Try.ntmps103
    go_wp2_with (at_builtin; refine Lib.wpList_append_run _ rfl _ _ _ _ rfl _ _ rfl rfl _ _ (HR.out _) ?_)
    go_ret
    exact ⟨⟨_, rfl, HO.out⟩, HL.out⟩
/-- So many of two. -/
def catK (a b : List Int) : Nat → List Int
  | 0 => []
  | 1 => a
  | _ => a ++ b
structure CatRel (w : World) (g : Nat) (va vb : Value) (a b : List Int) (k : Nat) (v : Value) (W : World) : Prop where
  own : OwnL W w.heap.size v (catK a b k)
  bel : Below w.heap.size w W
theorem cat_step {w W : World} {g : Nat} {va vb : Value} {a b : List Int} {k : Nat} {v : Value} (ha : NS w va a) (hb : NS w vb b) (hla : a.length ≤ 100000) (hlb : b.length ≤ 100000) (hk : k < 2) (h : CatRel w g va vb a b k v W) (ty : TypeId) :
    ∃ v' W', (Builtin.append_ #[58, 58] ty #[v, if k = 0 then va else vb]).run Try.prog W = .ok v' W' ∧ CatRel w g va vb a b (k + 1) v' W' := by
  have fin : ∀ v' W', OwnL W' w.heap.size v' (catK a b (k + 1)) → W.grownBy W' v.ownBlock → CatRel w g va vb a b (k + 1) v' W' := fun v' W' h1 h2 =>
    ⟨h1, h.bel.grown h2 h.bel.size (own_row h.own)⟩
  have hk' : k = 0 ∨ k = 1 := by omega
  rcases hk' with rfl | rfl
  · obtain ⟨v', W', hr, ho, hg, _⟩ := append_ns ty h.own (ha.below h.bel) (by simp [catK]; omega) h.bel.size
    exact ⟨v', W', hr, fin v' W' ho hg⟩
  · obtain ⟨v', W', hr, ho, hg, _⟩ := append_ns ty h.own (hb.below h.bel) (by simp [catK]; omega) h.bel.size
    exact ⟨v', W', hr, fin v' W' ho hg⟩
set_option maxHeartbeats 800000 in
theorem concat_any (g : Nat) (va vb : Value) (a b : List Int) (w : World) (hgl : g < w.heap.size) (h0 : w.cell? ⟨g, 0, none⟩ = some va) (h1 : w.cell? ⟨g, 1, none⟩ = some vb) (ha : NS w va a) (hb : NS w vb b) (hla : a.length ≤ 100000) (hlb : b.length ≤ 100000) :
    Calls Try.prog 81 #[.slice (some ⟨g, 0, none⟩) 2 2] w fun e w' => (∃ v', e = .returned v' ∧ OwnL w' w.heap.size v' (a ++ b)) ∧ Below w.heap.size w w' := by
  have HG := hidM (fun W => grow_any (a.length + b.length) W (by omega))
  have HS := hidM (fun (k : Nat) (v : Value) (W : World) (hk : k < 2) (h : CatRel w g va vb a b k v W) => cat_step ha hb hla hlb hk h 58)
  obtain ⟨aa, ca, rfl, -⟩ := ha
  obtain ⟨ab, cb, rfl, -⟩ := hb
  generalize hna : a.length = na at *
  generalize hnb : b.length = nb at *
  have H0 := hidM (show ∀ W, Below w.heap.size w W → W.cell? ⟨g, 0, none⟩ = some (.slice aa na ca) ∧ W.cell? ⟨g, 1, none⟩ = some (.slice ab nb cb) from fun W hW => ⟨(hW.cell (p := ⟨g, 0, none⟩) hgl).trans h0, (hW.cell (p := ⟨g, 1, none⟩) hgl).trans h1⟩)
  clear hna hnb
  go_enter Try.func81, Try.ntmps81
  go_wp2
  go_loop [3, 11] (fun n i => ∃ k : Nat, k ≤ 2 ∧ i = .int .i64 (k : Int) ∧ n = .int .i64 (if k = 0 then 0 else if k = 1 then (na : Int) else (na : Int) + nb)) (fun _ i => 2 - (intOf i).toNat)
  case atStart => exact ⟨0, by omega, rfl, rfl⟩
  case round =>
    obtain ⟨k, hk, rfl, rfl⟩ := hrel
    have hk' : k = 0 ∨ k = 1 ∨ k = 2 := by omega
    rcases hk' with rfl | rfl | rfl
    · go_wp2
      go_round
      case rel => exact ⟨1, by omega, by go_num, by simp⟩
      case measure => simp [intOf]
    · simp only [Nat.one_ne_zero, if_false, if_true]
      go_wp2
      go_round
      case rel => exact ⟨2, by omega, by go_num, by simp⟩
      case measure => simp [intOf]
    · rw [if_neg (by decide), if_neg (by decide), show (na : Int) + nb = ((na + nb : Nat) : Int) by omega]
      go_wp2_with (go_at_call 103; refine (HG.out _).mono ?_; rintro e w1 ⟨⟨v6, rfl, ho⟩, hbl⟩)
      have HC := hidM (CatRel.mk (g := g) (va := .slice aa na ca) (vb := .slice ab nb cb) (a := a) (b := b) (k := 0) ho hbl)
      clear ho hbl
      go_loopw [6, 27] (fun v i wr => ∃ k : Nat, k ≤ 2 ∧ i = .int .i64 (k : Int) ∧ Hid (CatRel w g (.slice aa na ca) (.slice ab nb cb) a b k v wr)) (fun _ i _ => 2 - (intOf i).toNat)
      case atStart => exact ⟨0, by omega, rfl, HC⟩
      case round =>
        obtain ⟨k, hk, rfl, HK⟩ := hrel
        obtain ⟨d0, d1⟩ := H0.out _ HK.out.bel
        have hk' : k = 0 ∨ k = 1 ∨ k = 2 := by omega
        rcases hk' with rfl | rfl | rfl
        · obtain ⟨v', W', hr, hc⟩ := HS.out 0 _ _ (by omega) HK.out
          have HR := hidM hr
          have HC' := hidM hc
          clear hr hc
          go_wp2_with (at_builtin; refine Lib.wpList_append_run _ rfl _ _ _ _ rfl _ _ rfl rfl _ _ HR.out ?_)
          go_roundw
          case rel => exact ⟨1, by omega, by go_num, HC'⟩
          case measure => simp [intOf]
        · obtain ⟨v', W', hr, hc⟩ := HS.out 1 _ _ (by omega) HK.out
          have HR := hidM hr
          have HC' := hidM hc
          clear hr hc
          go_wp2_with (at_builtin; refine Lib.wpList_append_run _ rfl _ _ _ _ rfl _ _ rfl rfl _ _ HR.out ?_)
          go_roundw
          case rel => exact ⟨2, by omega, by go_num, HC'⟩
          case measure => simp [intOf]
        · go_wp2
          go_ret
          exact ⟨⟨_, rfl, HK.out.own⟩, HK.out.bel⟩
end Go.Proofs.Yticpaemmdfmbfaa
/- Ways and bounds; rising lists. -/
namespace Go.Proofs.Yticpaemmdfmbfaa
open Go.RowKit
set_option linter.unusedVariables false
set_option maxRecDepth 100000

/-- May a way and a bound be? -/
def wayC (agg bound : Int) : Bool := if agg = 6 then decide (1 ≤ bound ∧ bound ≤ 32) else decide (1 ≤ agg ∧ agg ≤ 5 ∧ bound = 0)
theorem wayC_bd {agg bound : Int} (h : wayC agg bound = true) : 1 ≤ agg ∧ agg ≤ 6 ∧ 0 ≤ bound ∧ bound ≤ 32 ∧ (agg = 6 → 1 ≤ bound) := by
  unfold wayC at h
  split at h <;> simp at h <;> omega
theorem isWay_any (agg bound : Int) (w : World) : Calls Try.prog 49 #[.int .i64 agg, .int .i64 bound] w fun e w' => e = .returned (.bool (wayC agg bound)) ∧ w' = w := by
  by_cases h6 : agg = 6
  · by_cases h1 : 1 ≤ bound
    · by_cases h2 : bound ≤ 32
      · rw [show wayC agg bound = true by unfold wayC; rw [if_pos h6]; exact decide_eq_true (by omega)]
        go_enter Try.func49, Try.ntmps49
        go_wp2
        go_ret
        exact ⟨rfl, rfl⟩
      · rw [show wayC agg bound = false by unfold wayC; rw [if_pos h6]; exact decide_eq_false (by omega)]
        go_enter Try.func49, Try.ntmps49
        go_wp2
        go_ret
        exact ⟨rfl, rfl⟩
    · rw [show wayC agg bound = false by unfold wayC; rw [if_pos h6]; exact decide_eq_false (by omega)]
      go_enter Try.func49, Try.ntmps49
      go_wp2
      go_ret
      exact ⟨rfl, rfl⟩
  · by_cases h1 : 1 ≤ agg
    · by_cases h2 : agg ≤ 5
      · have h2' : agg < 6 := by omega
        by_cases h3 : bound = 0
        · rw [show wayC agg bound = true by unfold wayC; rw [if_neg h6]; exact decide_eq_true (by omega)]
          go_enter Try.func49, Try.ntmps49
          go_wp2
          go_ret
          exact ⟨rfl, rfl⟩
        · have h3' : (bound == 0) = false := by simpa using h3
          rw [show wayC agg bound = false by unfold wayC; rw [if_neg h6]; exact decide_eq_false (by omega)]
          go_enter Try.func49, Try.ntmps49
          go_wp2
          go_ret
          exact ⟨rfl, rfl⟩
      · have h2' : ¬ agg < 6 := by omega
        rw [show wayC agg bound = false by unfold wayC; rw [if_neg h6]; exact decide_eq_false (by omega)]
        go_enter Try.func49, Try.ntmps49
        go_wp2
        go_ret
        exact ⟨rfl, rfl⟩
    · rw [show wayC agg bound = false by unfold wayC; rw [if_neg h6]; exact decide_eq_false (by omega)]
      go_enter Try.func49, Try.ntmps49
      go_wp2
      go_ret
      exact ⟨rfl, rfl⟩
/-- So far all rise. -/
def RiseTo (l : List Int) (k : Nat) : Prop := ∀ i x y, i + 1 < k → l[i]? = some x → l[i + 1]? = some y → x < y
theorem riseTo_end {l : List Int} {k : Nat} (h : RiseTo l k) (hk : l.length ≤ k) : Rise l :=
  rise_of_next l fun i x y h1 h2 => h i x y (by have := (List.getElem?_eq_some_iff.1 h2).1; omega) h1 h2
theorem riseTo_one (l : List Int) : RiseTo l 1 := fun i x y h => by omega
theorem riseTo_step {l : List Int} {k : Nat} {x y : Int} (h : RiseTo l (k + 1)) (hx : l[k]? = some x) (hy : l[k + 1]? = some y) (hlt : x < y) : RiseTo l (k + 2) := fun i a b hi ha hb => by
  by_cases e : i = k
  · subst e
    rw [hx] at ha
    rw [hy] at hb
    injection ha with ha
    injection hb with hb
    omega
  · exact h i a b (by omega) ha hb
set_option maxHeartbeats 400000 in
theorem rising_any (v : Value) (l : List Int) (w : World) (h : NS w v l) (hl : l.length ≤ 100000) :
    Calls Try.prog 76 #[v] w fun e w' => e = .returned (.bool (decide (Rise l))) ∧ Drawn w w' := by
  obtain ⟨a, cap, rfl, h⟩ := h
  rcases h with rfl | ⟨b, off, rfl, hb, hat⟩
  · go_enter Try.func76, Try.ntmps76
    go_wp2
    go_loop [3] (fun i => i = .int .i64 1) (fun _ => 0)
    case atStart => rfl
    case round =>
      subst hrel
      go_wp2
      go_ret
      exact ⟨rfl, Drawn.refl _⟩
  · obtain ⟨n, hn⟩ : ∃ n, l.length = n := ⟨_, rfl⟩
    rw [hn] at hl ⊢
    obtain ⟨r, hr⟩ : ∃ r, decide (Rise l) = r := ⟨_, rfl⟩
    rw [hr]
    have HR := hidM hr
    clear hr
    go_enter Try.func76, Try.ntmps76
    go_wp2
    go_loopw [3] (fun i wr => ∃ k : Nat, k ≤ n + 1 ∧ i = .int .i64 ((k : Int) + 1) ∧ Hid (RiseTo l (k + 1)) ∧ Drawn w wr) (fun i _ => n + 2 - (intOf i).toNat)
    case atStart => exact ⟨0, by omega, rfl, riseTo_one l, Drawn.refl _⟩
    case round =>
      obtain ⟨k, hk, rfl, HT, hD⟩ := hrel
      by_cases hlt : k + 1 < n
      · obtain ⟨x, hx⟩ := getSome (l := l) (i := k) (by omega)
        obtain ⟨y, hy⟩ := getSome (l := l) (i := k + 1) (by omega)
        have c0 := hat.below (hD.below w.heap.size) hb k x hx
        have c1 := hat.below (hD.below w.heap.size) hb (k + 1) y hy
        have HX := hidM hx
        have HY := hidM hy
        clear hat hx hy
        have hk0 : (0 : Int) ≤ (k : Int) + 1 := by omega
        have hkl : (k : Int) + 1 < n := by omega
        have e1 : (k : Int) + 1 - 1 = k := by omega
        have e2 : ((k : Int) + 1).toNat = k + 1 := by omega
        by_cases hxy : y ≤ x
        · go_wp2
          go_quiet (fail)
          go_wp2
          go_ret
          refine ⟨?_, hD.step _⟩
          have : ¬ Rise l := fun h => by have := rise_next h HX.out HY.out; omega
          rw [← HR.out, decide_eq_false this]; rfl
        · have hxy' : x < y := by omega
          go_wp2
          go_quiet (fail)
          go_wp2
          go_roundw
          case rel => exact ⟨k + 1, by omega, by go_num, riseTo_step HT.out HX.out HY.out hxy', hD.step _⟩
          case measure => simp [intOf]; omega
      · have hlt' : n ≤ k + 1 := by omega
        have hlt2 : (n : Int) ≤ (k : Int) + 1 := by omega
        go_wp2
        go_ret
        refine ⟨?_, hD⟩
        rw [← HR.out, decide_eq_true (riseTo_end HT.out (by omega))]; rfl
end Go.Proofs.Yticpaemmdfmbfaa
