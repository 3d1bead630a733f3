/- Texts laid together: REq, WRecs. -/
import Derived.Test.YtaagllbcmgnbnaaGreatDoorMB12
import Derived.Test.YtaagllbcmgnbnaaGreatDoorMB1
import Derived.Test.YtaagllbcmgnbnaaGreatDoorMB4
import Derived.Test.YtaagllbcmgnbnaaGreatDoorMB2
import Derived.Deep.AppendLies
import Derived.Deep.QuietTactic
import Derived.BigQuiet
import Derived.WalkSmall
import Derived.Maps.AppendAt
/- == at records. -/
namespace Go.Proofs.YtaagllbcmgnbnaaGreatDoor
open Go.RowKit
set_option linter.unusedVariables false
set_option maxRecDepth 100000

def eqC (x y : Rc) : Bool := decide (x = y)
theorem eqC_self (x : Rc) : eqC x x = true := by simp [eqC]
theorem eqR (a c v u : Int) (b d : ByteArray) (w : World) : (binOp .eql 68 (.agg #[.int .i64 a, .string b, .int .i64 v]) (.agg #[.int .i64 c, .string d, .int .i64 u])).run Tryz.prog w = .ok (.bool (eqC ((a, b), v) ((c, d), u))) w := by
  have u2 := Tryz.underlying2
  have u9 := Tryz.underlying9
  have a2 := Tryz.isAgg2
  have z2 := Tryz.sizeOf2
  have a9 := Tryz.isAgg9
  have z9 := Tryz.sizeOf9
  have ak := Tryz.isAgg66
  have zk := Tryz.sizeOf66
  have hS : Tryz.prog.underlying 68 = some (.struct (Tryz.prog.fieldsOf 68)) := by kernel_rfl
  have hp : Tryz.prog.stoodInHeld 68 = false := by kernel_rfl
  have hS2 : Tryz.prog.underlying 66 = some (.struct (Tryz.prog.fieldsOf 66)) := by kernel_rfl
  have hp2 : Tryz.prog.stoodInHeld 66 = false := by kernel_rfl
  have hk : ∀ W, (Op.equalIn 9999 66 (.agg #[.int .i64 a, .string b]) (.agg #[.int .i64 c, .string d])).run Tryz.prog W = .ok (eqB (a, b) (c, d)) W := fun W => by
    rw [show (9999 : Nat) = 9998 + 1 from rfl, run_equalIn_agg W 9998 66 _ _ hS2 hp2]
    simp only [Program.fieldsOf, Tryz.underlying66]
    go_simp
    have hiff : (b.data.toList = d.data.toList) ↔ b = d := ⟨ba_ext, fun e => by rw [e]⟩
    by_cases h1 : a = c <;> by_cases h2 : b = d <;> simp [eqB, h1, h2, ByteArray.toList_eq, hiff]
  rw [run_eql_struct, show (10000 : Nat) = 9999 + 1 from rfl, run_equalIn_agg w 9999 68 _ _ hS hp]
  simp only [Program.fieldsOf, Tryz.underlying68]
  go_simp
  by_cases h1 : (a, b) = (c, d) <;> by_cases h2 : v = u <;> simp [eqB, eqC, h1, h2]
theorem guardR (op : BinOp) (p q : Operand) (xs ys : Array Value) (w : World) : (eqGuard op 68 p q (.agg xs) (.agg ys)).run Tryz.prog w = .ok () w :=
  run_eqGuard_agg w op 68 p q xs ys (by kernel_rfl)
theorem neR (a c v u : Int) (b d : ByteArray) (w : World) : (binOp .neq 68 (.agg #[.int .i64 a, .string b, .int .i64 v]) (.agg #[.int .i64 c, .string d, .int .i64 u])).run Tryz.prog w = .ok (.bool (!eqC ((a, b), v) ((c, d), u))) w := by
  have h := eqR a c v u b d w
  rw [run_eql_struct] at h
  rw [run_neq_struct]
  cases h1 : (Op.equalIn 10000 68 (.agg #[.int .i64 a, .string b, .int .i64 v]) (.agg #[.int .i64 c, .string d, .int .i64 u])).run Tryz.prog w with
  | ok v w' => rw [h1] at h; simp only [Result.andThen] at h ⊢; injection h with h2 h3; injection h2 with h2; rw [h2, h3]
  | _ => rw [h1] at h; simp only [Result.andThen] at h; cases h
end Go.Proofs.YtaagllbcmgnbnaaGreatDoor
/- Records copied and compared. -/
namespace Go.Proofs.YtaagllbcmgnbnaaGreatDoor
open Go.RowKit
set_option linter.unusedVariables false
set_option maxRecDepth 100000

theorem cell_rec_new (w : World) (a : Int) (b : ByteArray) (v : Int) (T : TypeId) : ∀ j u, [Value.int .i64 a, .string b, .int .i64 v][j]? = some u → (w.alloc (.cells #[.int .i64 a, .string b, .int .i64 v] T)).cell? ((⟨w.heap.size, 0, none⟩ : Addr).add j) = some u :=
  fun j u hu => World.news_of_block (heap_alloc_new w _) j u hu
set_option maxHeartbeats 400000 in
theorem copyRecs_any (v : Value) (l : List Rc) (w : World) (h : RS w v l) (hl : l.length ≤ 100000) :
    Calls Tryz.prog 11 #[v] w fun e w' => ∃ v', e = .returned v' ∧ OwnR w' w.heap.size v' l ∧ Below w.heap.size w w' := by
  obtain ⟨i0, hi, hz0, hz1, hz2⟩ := info_parts Tryz.infoRec
  obtain ⟨a, cap, rfl, h⟩ := h
  rcases h with rfl | ⟨b, off, rfl, hb, hat⟩
  · go_enter Tryz.func11, Tryz.ntmps11
    go_wp2
    go_loop [3, 4] (fun n i => n = .slice none 0 0 ∧ i = .int .i64 0) (fun _ _ => 0)
    case atStart => exact ⟨rfl, rfl⟩
    case round =>
      obtain ⟨rfl, rfl⟩ := hrel
      go_wp2
      go_ret
      exact ⟨_, rfl, World.ownsRow_nil _ _ _ _, Below.refl _ _⟩
  · go_enter Tryz.func11, Tryz.ntmps11
    go_wp2
    go_loopw [3, 4] (fun m i wr => ∃ k : Nat, k ≤ l.length ∧ i = .int .i64 k ∧ OwnR wr w.heap.size m (l.take k) ∧ Below w.heap.size w wr) (fun _ i _ => l.length - (intOf i).toNat)
    case atStart => exact ⟨0, by omega, rfl, World.ownsRow_nil _ _ _ _, Below.refl _ _⟩
    case round =>
      obtain ⟨k, hk, rfl, hown, hbel⟩ := hrel
      have hsz := hbel.size
      by_cases hlt : k < l.length
      · obtain ⟨y, hy⟩ := getSome hlt
        obtain ⟨c0, c1, c2⟩ := hat.below hbel hb k y hy
        have hstep : l.take (k + 1) = l.take k ++ [y] := by rw [List.take_add_one, hy]; rfl
        have hlk : (l.take k).length = k := by simp; omega
        obtain ⟨⟨ya, yb⟩, yv⟩ := y
        clear hy
        go_wp2_with (at_builtin; refine wpList_append_own _ rfl _ _ 23 rfl w.heap.size 68 i0 _ 3 32 Tryz.underlying23 hi hz0 hz1 hz2 rfl (by decide) _ _ _ rfl (hown.alloc _) ⟨wr.heap.size, 0, none⟩ 1 1 [.int .i64 ya, .string yb, .int .i64 yv] rfl rfl (cell_rec_new _ _ _ _ _) (rec_cells _ _ _) ?c3 ?c4 ?c5 ?_)
        case c3 => unfold maxLen; omega
        case c4 => omega
        case c5 => first | omega | (simp; omega)
        intro v2 w2 hown2 hgrow2 _
        have hbel2 : Below w.heap.size w w2 := (hbel.alloc hsz _).grown hgrow2 (by simp; omega) (own_row hown)
        have hown3 : OwnR w2 w.heap.size v2 (l.take (k + 1)) := by rw [hstep]; exact OwnR.snoc (x := ((ya, yb), yv)) hown2 hlk.symm
        clear hown2 hgrow2 hown hbel c0 c1 c2
        go_wp2
        go_roundw
        case rel => exact ⟨k + 1, by omega, by go_num, hown3, hbel2⟩
        case measure => simp [intOf]; omega
      · have hlt' : l.length ≤ k := by omega
        have e : l.take k = l := List.take_of_length_le hlt'
        rw [e] at hown
        go_wp2
        go_ret
        exact ⟨_, rfl, hown, hbel⟩
set_option maxHeartbeats 400000 in
/-- The same records in two slices. -/
theorem eqrecs_any (v u : Value) (l : List Rc) (w : World) (h : RS w v l) (h' : RS w u l) (hl : l.length ≤ 100000) :
    Calls Tryz.prog 72 #[v, u] w fun e w' => e = .returned (.bool true) ∧ Drawn w w' := by
  obtain ⟨a, cap, rfl, h⟩ := h
  obtain ⟨a', cap', rfl, h'⟩ := h'
  rcases h with rfl | ⟨b, off, rfl, hb, hat⟩
  · go_enter Tryz.func72, Tryz.ntmps72
    go_wp2
    go_loop [5] (fun i => i = .int .i64 0) (fun _ => 0)
    case atStart => rfl
    case round =>
      subst hrel
      go_wp2
      go_ret
      exact ⟨rfl, Drawn.refl _⟩
  · rcases h' with rfl | ⟨b', off', rfl, hb', hat'⟩
    · go_enter Tryz.func72, Tryz.ntmps72
      go_wp2
      go_loop [5] (fun i => i = .int .i64 0) (fun _ => 0)
      case atStart => rfl
      case round =>
        subst hrel
        go_wp2
        go_ret
        exact ⟨rfl, Drawn.refl _⟩
    · have hne := neR
      have hgd := guardR
      obtain ⟨n, hn⟩ : ∃ n, l.length = n := ⟨_, rfl⟩
      rw [hn]
      rw [hn] at hl
      go_enter Tryz.func72, Tryz.ntmps72
      go_wp2
      go_loopw [5] (fun i wr => ∃ k : Nat, k ≤ n ∧ i = .int .i64 k ∧ Drawn w wr) (fun i _ => n - (intOf i).toNat)
      case atStart => exact ⟨0, by omega, rfl, Drawn.refl _⟩
      case round =>
        obtain ⟨k, hk, rfl, hD⟩ := hrel
        by_cases hlt : k < n
        · obtain ⟨y, hy⟩ := getSome (l := l) (i := k) (by omega)
          obtain ⟨c0, c1, c2⟩ := hat.below (hD.below w.heap.size) hb k y hy
          obtain ⟨d0, d1, d2⟩ := hat'.below (hD.below w.heap.size) hb' k y hy
          obtain ⟨⟨ya, yb⟩, yv⟩ := y
          clear hat hat' hy
          have hk0 : (0 : Int) ≤ k := by omega
          have hkl : (k : Int) < n := by omega
          have he' : eqC ((ya, yb), yv) ((ya, yb), yv) = true := eqC_self _
          go_wp2
          go_quiet (fail)
          go_wp2
          go_roundw
          case rel => exact ⟨k + 1, by omega, by go_num, hD.step _⟩
          case measure => simp [intOf]; omega
        · have hlt' : n ≤ k := by omega
          go_wp2
          go_ret
          exact ⟨rfl, hD⟩
end Go.Proofs.YtaagllbcmgnbnaaGreatDoor
