/- Contracts over slices of records: RecsWeight, heavy, CopyRecs, EqRecs, Recs, num. -/
import Derived.Test.YtmdkkagngiahcaaRRow
import Derived.Test.YtmdkkagngiahcaaREq
import Derived.Test.YtmdkkagngiahcaaRFn
import Derived.Deep.QuietTactic
import Derived.BigQuiet
import Derived.WalkSmall
import Derived.Maps.AppendAt
namespace Go.Proofs.Ytmdkkagngiahcaa
open Go.RowKit
set_option linter.unusedVariables false

theorem getSome {α : Type} {l : List α} {i : Nat} (h : i < l.length) : ∃ x, l[i]? = some x := ⟨l[i], List.getElem?_eq_getElem h⟩

theorem num_any (e : Int) (w : World) : Calls Try.prog 10 #[.int .i64 e] w fun r w' => r = .returned (.int .i64 e) ∧ w' = w := by
  go_enter Try.func10, Try.ntmps10
  go_wp2
  go_ret
  exact ⟨rfl, rfl⟩

theorem weight_any (v : Value) (l : List Rc) (w : World) (h : RS w v l) (hl : l.length ≤ 4398046510976) (hwf : Wf l) : Calls Try.prog 21 #[v] w fun e w' => (∃ n : Int, e = .returned (.int .i64 n) ∧ (l.length : Int) ≤ n) ∧ w' = w := by
  obtain ⟨a, cap, rfl, h⟩ := h
  rcases h with rfl | ⟨b, off, rfl, hb, hat⟩
  · go_enter Try.func21, Try.ntmps21
    go_wp2
    go_loop [3, 4] (fun n i => n = .int .i64 0 ∧ i = .int .i64 0) (fun _ _ => 0)
    case atStart => exact ⟨rfl, rfl⟩
    case round =>
      obtain ⟨rfl, rfl⟩ := hrel
      go_wp2
      go_ret
      exact ⟨⟨_, rfl, by simp⟩, rfl⟩
  · go_enter Try.func21, Try.ntmps21
    go_wp2
    go_loop [3, 4] (fun n i => ∃ (k : Nat) (x : Int), k ≤ l.length ∧ i = .int .i64 k ∧ n = .int .i64 x ∧ (l.length : Int) ≤ x) (fun _ i => l.length - (intOf i).toNat)
    case atStart => exact ⟨0, _, by omega, rfl, rfl, by omega⟩
    case round =>
      obtain ⟨k, x, hk, rfl, rfl, hlx⟩ := hrel
      by_cases hlt : k < l.length
      · obtain ⟨y, hy⟩ := getSome hlt
        obtain ⟨c0, c1, c2⟩ := hat k y hy
        have hsz := (hwf y (List.mem_of_getElem? hy)).txt
        obtain ⟨⟨ya, yb⟩, yv⟩ := y
        simp only at hsz c0 c1 c2
        clear hat hy
        by_cases hx : x < 1048576
        · go_wp2
          go_round
          case rel => exact ⟨k + 1, _, by omega, by go_num, rfl, by omega⟩
          case measure => simp [intOf]; omega
        · have hx' : (1048576 : Int) ≤ x := by omega
          go_wp2
          go_ret
          exact ⟨⟨_, rfl, hlx⟩, rfl⟩
      · have hlt' : l.length ≤ k := by omega
        go_wp2
        go_ret
        exact ⟨⟨_, rfl, hlx⟩, rfl⟩

/-- What heavy answers. -/
def HeavyR (l : List Rc) (x : ByteArray) (e : Ending) : Prop := ∃ r : Bool, e = .returned (.bool r) ∧ (r = false → l.length ≤ 9000 ∧ x.size ≤ 20000)
theorem heavy_any (v : Value) (x : ByteArray) (l : List Rc) (w : World) (h : RS w v l) (hl : l.length ≤ 4398046510976) (hwf : Wf l) :
    Calls Try.prog 6 #[.agg #[v, .string x]] w fun e w' => HeavyR l x e ∧ Below w.heap.size w w' := by
  have hc := fun W (hW : RS W v l) => weight_any v l W hW hl hwf
  have h1 : RS (w.alloc (.cells #[v, .string x] 24)) v l := h.below ((Below.refl _ _).alloc (Nat.le_refl _) _)
  obtain ⟨a, cap, rfl, h⟩ := h
  go_enter Try.func6, Try.ntmps6
  go_wp2_with (go_at_call 21; refine (hc _ h1).mono ?_; rintro e w' ⟨⟨n, rfl, hn⟩, rfl⟩)
  all_goals
    go_ret
    refine ⟨⟨_, rfl, ?_⟩, (Below.refl _ _).alloc (Nat.le_refl _) _⟩
    simp
    try omega

theorem Try.infoRec : (Try.prog.info? 32).map (fun i => (i.zero, i.size, i.bytes)) = some (some (.agg #[.int .i64 0, .string ⟨#[]⟩, .int .i64 0]), 3, 32) := by kernel_rfl
theorem cell_rec_new (w : World) (a : Int) (b : ByteArray) (v : Int) (T : TypeId) : ∀ j u, [Value.int .i64 a, .string b, .int .i64 v][j]? = some u → (w.alloc (.cells #[.int .i64 a, .string b, .int .i64 v] T)).cell? ((⟨w.heap.size, 0, none⟩ : Addr).add j) = some u := by
  intro j u hj
  rw [Addr.add_lit, Nat.zero_add]
  match j, hj with
  | 0, hj => simp at hj; subst hj; exact (BoxR.new w a b v T).2.1
  | 1, hj => simp at hj; subst hj; exact (BoxR.new w a b v T).2.2.1
  | 2, hj => simp at hj; subst hj; exact (BoxR.new w a b v T).2.2.2
theorem rec_cells (a : Int) (b : ByteArray) (v : Int) : ∀ u ∈ [Value.int .i64 a, .string b, .int .i64 v], u.oneCell' = true := by
  intro u hu
  simp only [List.mem_cons, List.not_mem_nil, or_false] at hu
  rcases hu with rfl | rfl | rfl <;> rfl
theorem own_row {w : World} {base n : Nat} {e : TypeId} {size : Nat} {v : Value} {xs : List Value} (h : w.ownsRow base e size v n xs) : ∀ k, v.ownBlock = some k → base ≤ k := fun k hk => (h.lt k hk).1

set_option maxHeartbeats 400000 in
theorem copy_any (v : Value) (l : List Rc) (w : World) (h : RS w v l) (hl : l.length ≤ 100000) :
    Calls Try.prog 15 #[v] w fun e w' => ∃ v', e = .returned v' ∧ OwnR w' w.heap.size v' l ∧ Below w.heap.size w w' := by
  obtain ⟨i0, hi, hz0, hz1, hz2⟩ := info_parts Try.infoRec
  obtain ⟨a, cap, rfl, h⟩ := h
  rcases h with rfl | ⟨b, off, rfl, hb, hat⟩
  · go_enter Try.func15, Try.ntmps15
    go_wp2
    go_loop [3, 4] (fun n i => n = .slice none 0 0 ∧ i = .int .i64 0) (fun _ _ => 0)
    case atStart => exact ⟨rfl, rfl⟩
    case round =>
      obtain ⟨rfl, rfl⟩ := hrel
      go_wp2
      go_ret
      exact ⟨_, rfl, World.ownsRow_nil _ _ _ _, Below.refl _ _⟩
  · go_enter Try.func15, Try.ntmps15
    go_wp2
    go_loopw [3, 4] (fun m i wr => ∃ k : Nat, k ≤ l.length ∧ i = .int .i64 k ∧ OwnR wr w.heap.size m (l.take k) ∧ Below w.heap.size w wr) (fun _ i _ => l.length - (intOf i).toNat)
    case atStart => exact ⟨0, by omega, rfl, World.ownsRow_nil _ _ _ _, Below.refl _ _⟩
    case round =>
      obtain ⟨k, hk, rfl, hown, hbel⟩ := hrel
      have hsz := hbel.size
      by_cases hlt : k < l.length
      · obtain ⟨y, hy⟩ := getSome hlt
        obtain ⟨c0, c1, c2⟩ := hat.below hbel hb k y hy
        have hstep : l.take (k + 1) = l.take k ++ [y] := by rw [List.take_add_one, hy]; rfl
        have hlk : (l.take k).length = k := by simp; omega
        obtain ⟨⟨ya, yb⟩, yv⟩ := y
        clear hy
        go_wp2_with (at_builtin; refine wpList_append_own _ rfl _ _ 22 rfl w.heap.size 32 i0 _ 3 32 Try.underlying22 hi hz0 hz1 hz2 rfl (by decide) _ _ _ rfl (hown.alloc _) ⟨wr.heap.size, 0, none⟩ 1 1 [.int .i64 ya, .string yb, .int .i64 yv] rfl rfl (cell_rec_new _ _ _ _ _) (rec_cells _ _ _) ?c3 ?c4 ?c5 ?_)
        case c3 => unfold maxLen; omega
        case c4 => omega
        case c5 => first | omega | (simp; omega)
        intro v2 w2 hown2 hgrow2 _
        have hbel2 : Below w.heap.size w w2 := (hbel.alloc hsz _).grown hgrow2 (by simp; omega) (own_row hown)
        have hown3 : OwnR w2 w.heap.size v2 (l.take (k + 1)) := by rw [hstep]; exact OwnR.snoc (x := ((ya, yb), yv)) hown2 hlk.symm
        clear hown2 hgrow2 hown hbel c0 c1 c2
        go_wp2
        go_roundw
        case rel => exact ⟨k + 1, by omega, by go_num, hown3, hbel2⟩
        case measure => simp [intOf]; omega
      · have hlt' : l.length ≤ k := by omega
        have e : l.take k = l := List.take_of_length_le hlt'
        rw [e] at hown
        go_wp2
        go_ret
        exact ⟨_, rfl, hown, hbel⟩

/-- From w on nothing has been done but draws. -/
def Drawn (w wr : World) : Prop := ∃ q, wr = w.drewN q
theorem Drawn.refl (w : World) : Drawn w w := ⟨0, rfl⟩
theorem Drawn.step {w wr : World} (h : Drawn w wr) (q : Nat) : Drawn w (wr.drewN q) := by obtain ⟨n, rfl⟩ := h; exact ⟨n + q, by simp [World.drewN, Nat.add_assoc]⟩
theorem Drawn.cell {w wr : World} (h : Drawn w wr) (a : Addr) : wr.cell? a = w.cell? a := by obtain ⟨n, rfl⟩ := h; rfl
theorem Drawn.below {w wr : World} (h : Drawn w wr) (B : Nat) : Below B w wr := by obtain ⟨n, rfl⟩ := h; exact ⟨rfl, rfl, rfl, Nat.le_refl _, fun _ _ => rfl⟩
theorem eq_take {α : Type} {l m : List α} (h : l.length = m.length) {k : Nat} (hk : l.take k = m.take k) (hl : l.length ≤ k) : l = m := by
  rwa [List.take_of_length_le hl, List.take_of_length_le (h ▸ hl)] at hk

set_option maxHeartbeats 400000 in
/-- The same records in two slices. -/
theorem eqrecs_any (v u : Value) (l : List Rc) (w : World) (h : RS w v l) (h' : RS w u l) (hl : l.length ≤ 100000) :
    Calls Try.prog 19 #[v, u] w fun e w' => e = .returned (.bool true) ∧ Drawn w w' := by
  obtain ⟨a, cap, rfl, h⟩ := h
  obtain ⟨a', cap', rfl, h'⟩ := h'
  rcases h with rfl | ⟨b, off, rfl, hb, hat⟩
  · go_enter Try.func19, Try.ntmps19
    go_wp2
    go_loop [5] (fun i => i = .int .i64 0) (fun _ => 0)
    case atStart => rfl
    case round =>
      subst hrel
      go_wp2
      go_ret
      exact ⟨rfl, Drawn.refl _⟩
  · rcases h' with rfl | ⟨b', off', rfl, hb', hat'⟩
    · go_enter Try.func19, Try.ntmps19
      go_wp2
      go_loop [5] (fun i => i = .int .i64 0) (fun _ => 0)
      case atStart => rfl
      case round =>
        subst hrel
        go_wp2
        go_ret
        exact ⟨rfl, Drawn.refl _⟩
    · have hne := neR
      have hgd := guardR
      obtain ⟨n, hn⟩ : ∃ n, l.length = n := ⟨_, rfl⟩
      rw [hn]
      rw [hn] at hl
      go_enter Try.func19, Try.ntmps19
      go_wp2
      go_loopw [5] (fun i wr => ∃ k : Nat, k ≤ n ∧ i = .int .i64 k ∧ Drawn w wr) (fun i _ => n - (intOf i).toNat)
      case atStart => exact ⟨0, by omega, rfl, Drawn.refl _⟩
      case round =>
        obtain ⟨k, hk, rfl, hD⟩ := hrel
        by_cases hlt : k < n
        · obtain ⟨y, hy⟩ := getSome (l := l) (i := k) (by omega)
          obtain ⟨c0, c1, c2⟩ := hat.below (hD.below w.heap.size) hb k y hy
          obtain ⟨d0, d1, d2⟩ := hat'.below (hD.below w.heap.size) hb' k y hy
          obtain ⟨⟨ya, yb⟩, yv⟩ := y
          clear hat hat' hy
          have hk0 : (0 : Int) ≤ k := by omega
          have hkl : (k : Int) < n := by omega
          have he' : eqC ((ya, yb), yv) ((ya, yb), yv) = true := eqC_self _
          go_wp2
          go_quiet (fail)
          go_wp2
          go_roundw
          case rel => exact ⟨k + 1, by omega, by go_num, hD.step _⟩
          case measure => simp [intOf]; omega
        · have hlt' : n ≤ k := by omega
          go_wp2
          go_ret
          exact ⟨rfl, hD⟩

/-! ### Recs: written over -/
/-- Block g is a row of at least n cells that may be written. -/
def RowAt (w : World) (g n : Nat) : Prop := ∃ cur e, w.heap[g]? = some (.cells cur e (0, 0)) ∧ n ≤ cur.size
theorem RowAt.cell {w : World} {g n i : Nat} (h : RowAt w g n) (hi : i < n) : ∃ u, w.cell? ⟨g, i, none⟩ = some u ∧ w.frozen? ⟨g, i, none⟩ = false := by
  obtain ⟨cur, e, hb, hn⟩ := h
  refine ⟨cur[i]'(by omega), ?_, ?_⟩
  · simp only [World.cell?, hb]; simp [show i < cur.size by omega]
  · simp [World.frozen?, hb]
theorem RowAt.set {w : World} {g n : Nat} (h : RowAt w g n) (b o : Nat) (u : Value) : RowAt (w.setCell ⟨b, o, none⟩ u) g n := by
  obtain ⟨cur, e, hb, hn⟩ := h
  by_cases hg : b = g
  · subst hg
    refine ⟨cur.setIfInBounds o u, e, ?_, by simpa using hn⟩
    simp only [World.setCell, Array.getElem?_modify, hb]
    simp
  · exact ⟨cur, e, by rw [Below.heap_setCell _ _ _ _ (fun e : g = b => hg e.symm)]; exact hb, hn⟩
theorem grownBy_set (w : World) (g q : Nat) (u : Value) : w.grownBy (w.setCell ⟨g, q, none⟩ u) (some g) :=
  ⟨rfl, rfl, rfl, by simp [World.setCell], fun k hk hne => Below.heap_setCell _ _ _ _ (fun e => hne (by rw [e]))⟩
set_option maxHeartbeats 400000 in
theorem wipe_some (g cap : Nat) (n : Nat) (w : World) (h : RowAt w g (n * 3)) (hl : n ≤ 100000) :
    Calls Try.prog 20 #[.slice (some ⟨g, 0, none⟩) n cap] w fun e w' => e = .returned (.tuple #[]) ∧ w.grownBy w' (some g) := by
  go_enter Try.func20, Try.ntmps20
  go_wp2
  go_loopw [2] (fun i wr => ∃ k : Nat, k ≤ n ∧ i = .int .i64 k ∧ RowAt wr g (n * 3) ∧ w.grownBy wr (some g)) (fun i _ => n - (intOf i).toNat)
  case atStart => exact ⟨0, by omega, rfl, h, World.grownBy.refl _ _⟩
  case round =>
    obtain ⟨k, hk, rfl, hR, hbel⟩ := hrel
    by_cases hlt : k < n
    · obtain ⟨u0, c0, f0⟩ := hR.cell (i := k * 3) (by omega)
      obtain ⟨u1, c1, f1⟩ := hR.cell (i := k * 3 + 1) (by omega)
      obtain ⟨u2, c2, f2⟩ := hR.cell (i := k * 3 + 2) (by omega)
      go_wp2
      go_roundw
      case rel => exact ⟨k + 1, by omega, by go_num, ((hR.set _ _ _).set _ _ _).set _ _ _, ((hbel.trans (grownBy_set _ _ _ _)).trans (grownBy_set _ _ _ _)).trans (grownBy_set _ _ _ _)⟩
      case measure => simp [intOf]; omega
    · have hlt' : n ≤ k := by omega
      go_wp2
      go_end0
      exact ⟨rfl, hbel⟩
theorem wipe_none (a : Option Addr) (cap : Nat) (w : World) :
    Calls Try.prog 20 #[.slice a 0 cap] w fun e w' => e = .returned (.tuple #[]) ∧ w' = w := by
  go_enter Try.func20, Try.ntmps20
  go_wp2
  go_loop [2] (fun i => i = .int .i64 0) (fun _ => 0)
  case atStart => rfl
  case round =>
    subst hrel
    go_wp2
    go_end0
    exact ⟨rfl, rfl⟩
/-- Whatever row of its own: nothing but that row turns. -/
theorem wipe_own (v : Value) (base : Nat) (l : List Rc) (w : World) (h : OwnR w base v l) (hl : l.length ≤ 100000) :
    Calls Try.prog 20 #[v] w fun e w' => e = .returned (.tuple #[]) ∧ w.grownBy w' v.ownBlock := by
  rcases h.2 with ⟨rfl, h0⟩ | ⟨g, cap, cur, rfl, hg, hb, hn, hm, hs, ht⟩
  · exact (wipe_none none 0 w).mono fun e w' ⟨he, hw⟩ => ⟨he, by subst hw; exact World.grownBy.refl _ _⟩
  · refine (wipe_some g cap l.length w ⟨cur, _, hb, ?_⟩ hl).mono fun e w' ⟨he, hw⟩ => ⟨he, hw⟩
    rw [hs]
    omega
end Go.Proofs.Ytmdkkagngiahcaa
