/- Contracts over slices of records: RecsWeight, heavy, CopyRecs, EqRecs, Recs, num. -/
import Derived.Test.YtdejdcibcihfeaaB12
import Derived.Test.YtdejdcibcihfeaaB15
import Derived.Test.YtdejdcibcihfeaaB23
import Derived.Deep.QuietTactic
import Derived.BigQuiet
import Derived.WalkSmall
import Derived.Maps.AppendAt
namespace Go.Proofs.Ytdejdcibcihfeaa
open Go.RowKit
set_option linter.unusedVariables false
set_option maxRecDepth 100000

theorem getSome {α : Type} {l : List α} {i : Nat} (h : i < l.length) : ∃ x, l[i]? = some x := ⟨l[i], List.getElem?_eq_getElem h⟩

/-- What heavy answers. -/
def HeavyR (l : List Rc) (x : ByteArray) (e : Ending) : Prop := ∃ r : Bool, e = .returned (.bool r) ∧ (r = false → l.length ≤ 9000 ∧ x.size ≤ 20000)
theorem cell_rec_new (w : World) (a : Int) (b : ByteArray) (v : Int) (T : TypeId) : ∀ j u, [Value.int .i64 a, .string b, .int .i64 v][j]? = some u → (w.alloc (.cells #[.int .i64 a, .string b, .int .i64 v] T)).cell? ((⟨w.heap.size, 0, none⟩ : Addr).add j) = some u := by
  intro j u hj
  rw [Addr.add_lit, Nat.zero_add]
  match j, hj with
  | 0, hj => simp at hj; subst hj; exact (BoxR.new w a b v T).2.1
  | 1, hj => simp at hj; subst hj; exact (BoxR.new w a b v T).2.2.1
  | 2, hj => simp at hj; subst hj; exact (BoxR.new w a b v T).2.2.2
theorem own_row {w : World} {base n : Nat} {e : TypeId} {size : Nat} {v : Value} {xs : List Value} (h : w.ownsRow base e size v n xs) : ∀ k, v.ownBlock = some k → base ≤ k := fun k hk => (h.lt k hk).1

/-- From w on nothing has been done but draws. -/
def Drawn (w wr : World) : Prop := ∃ q, wr = w.drewN q
theorem Drawn.refl (w : World) : Drawn w w := ⟨0, rfl⟩
theorem Drawn.step {w wr : World} (h : Drawn w wr) (q : Nat) : Drawn w (wr.drewN q) := by obtain ⟨n, rfl⟩ := h; exact ⟨n + q, by simp [World.drewN, Nat.add_assoc]⟩
theorem Drawn.cell {w wr : World} (h : Drawn w wr) (a : Addr) : wr.cell? a = w.cell? a := by obtain ⟨n, rfl⟩ := h; rfl
theorem Drawn.below {w wr : World} (h : Drawn w wr) (B : Nat) : Below B w wr := by obtain ⟨n, rfl⟩ := h; exact ⟨rfl, rfl, rfl, Nat.le_refl _, fun _ _ => rfl⟩
theorem eq_take {α : Type} {l m : List α} (h : l.length = m.length) {k : Nat} (hk : l.take k = m.take k) (hl : l.length ≤ k) : l = m := by
  rwa [List.take_of_length_le hl, List.take_of_length_le (h ▸ hl)] at hk

set_option maxHeartbeats 400000 in
/-- The same records in two slices. -/
theorem eqrecs_any (v u : Value) (l : List Rc) (w : World) (h : RS w v l) (h' : RS w u l) (hl : l.length ≤ 100000) :
    Calls Try.prog 18 #[v, u] w fun e w' => e = .returned (.bool true) ∧ Drawn w w' := by
  obtain ⟨a, cap, rfl, h⟩ := h
  obtain ⟨a', cap', rfl, h'⟩ := h'
  rcases h with rfl | ⟨b, off, rfl, hb, hat⟩
  · go_enter Try.func18, Try.ntmps18
    go_wp2
    go_loop [5] (fun i => i = .int .i64 0) (fun _ => 0)
    case atStart => rfl
    case round =>
      subst hrel
      go_wp2
      go_ret
      exact ⟨rfl, Drawn.refl _⟩
  · rcases h' with rfl | ⟨b', off', rfl, hb', hat'⟩
    · go_enter Try.func18, Try.ntmps18
      go_wp2
      go_loop [5] (fun i => i = .int .i64 0) (fun _ => 0)
      case atStart => rfl
      case round =>
        subst hrel
        go_wp2
        go_ret
        exact ⟨rfl, Drawn.refl _⟩
    · have hne := neR
      have hgd := guardR
      obtain ⟨n, hn⟩ : ∃ n, l.length = n := ⟨_, rfl⟩
      rw [hn]
      rw [hn] at hl
      go_enter Try.func18, Try.ntmps18
      go_wp2
      go_loopw [5] (fun i wr => ∃ k : Nat, k ≤ n ∧ i = .int .i64 k ∧ Drawn w wr) (fun i _ => n - (intOf i).toNat)
      case atStart => exact ⟨0, by omega, rfl, Drawn.refl _⟩
      case round =>
        obtain ⟨k, hk, rfl, hD⟩ := hrel
        by_cases hlt : k < n
        · obtain ⟨y, hy⟩ := getSome (l := l) (i := k) (by omega)
          obtain ⟨c0, c1, c2⟩ := hat.below (hD.below w.heap.size) hb k y hy
          obtain ⟨d0, d1, d2⟩ := hat'.below (hD.below w.heap.size) hb' k y hy
          obtain ⟨⟨ya, yb⟩, yv⟩ := y
          clear hat hat' hy
          have hk0 : (0 : Int) ≤ k := by omega
          have hkl : (k : Int) < n := by omega
          have he' : eqC ((ya, yb), yv) ((ya, yb), yv) = true := eqC_self _
          go_wp2
          go_quiet (fail)
          go_wp2
          go_roundw
          case rel => exact ⟨k + 1, by omega, by go_num, hD.step _⟩
          case measure => simp [intOf]; omega
        · have hlt' : n ≤ k := by omega
          go_wp2
          go_ret
          exact ⟨rfl, hD⟩

/-! ### Recs: written over -/
/-- Block g is a row of at least n cells that may be written. -/
def RowAt (w : World) (g n : Nat) : Prop := ∃ cur e, w.heap[g]? = some (.cells cur e (0, 0)) ∧ n ≤ cur.size
theorem RowAt.cell {w : World} {g n i : Nat} (h : RowAt w g n) (hi : i < n) : ∃ u, w.cell? ⟨g, i, none⟩ = some u ∧ w.frozen? ⟨g, i, none⟩ = false := by
  obtain ⟨cur, e, hb, hn⟩ := h
  refine ⟨cur[i]'(by omega), ?_, ?_⟩
  · simp only [World.cell?, hb]; simp [show i < cur.size by omega]
  · simp [World.frozen?, hb]
theorem RowAt.set {w : World} {g n : Nat} (h : RowAt w g n) (b o : Nat) (u : Value) : RowAt (w.setCell ⟨b, o, none⟩ u) g n := by
  obtain ⟨cur, e, hb, hn⟩ := h
  by_cases hg : b = g
  · subst hg
    refine ⟨cur.setIfInBounds o u, e, ?_, by simpa using hn⟩
    simp only [World.setCell, Array.getElem?_modify, hb]
    simp
  · exact ⟨cur, e, by rw [Below.heap_setCell _ _ _ _ (fun e : g = b => hg e.symm)]; exact hb, hn⟩
theorem grownBy_set (w : World) (g q : Nat) (u : Value) : w.grownBy (w.setCell ⟨g, q, none⟩ u) (some g) :=
  ⟨rfl, rfl, rfl, by simp [World.setCell], fun k hk hne => Below.heap_setCell _ _ _ _ (fun e => hne (by rw [e]))⟩
end Go.Proofs.Ytdejdcibcihfeaa
