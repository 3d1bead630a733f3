/- Texts laid together: KEq, WCmp, KPlain. -/
import Derived.Test.YtclcgakfmcofaaaGreatDoorRows
import Derived.Test.YtclcgakfmcofaaaGreatDoorMW1
import Derived.WalkKit
import Derived.WalkSpells
import Derived.Laws.StructEq
import Derived.Lib.Strings
import Derived.Lib.Walk
import Derived.Lib.Bytealg
import Derived.Shelf.SlGeneric
import Derived.Shelf.SlicesG.Cmp
import Derived.Ground.SlgcProg
import Derived.Sort.Grow
import Derived.Deep.QuietTactic
import Derived.Lib.Small
import Derived.Shelf.SlSortCmp.Insertion
set_option linter.unusedVariables false
set_option maxRecDepth 100000
set_option maxHeartbeats 1000000
namespace Go.Proofs.YtclcgakfmcofaaaGreatDoor
open Go.RowKit
def eqB (x y : Ky) : Bool := decide (x = y)
theorem eqB_self (x : Ky) : eqB x x = true := by simp [eqB]
theorem eqK (a c : Int) (b d : ByteArray) (w : World) : (binOp .eql 124 (.agg #[.int .i64 a, .string b]) (.agg #[.int .i64 c, .string d])).run Tryz.prog w = .ok (.bool (eqB (a, b) (c, d))) w := by
 have u2 := Tryz.underlying2
 have u9 := Tryz.underlying9
 have a2 := Tryz.isAgg2
 have z2 := Tryz.sizeOf2
 have a9 := Tryz.isAgg9
 have z9 := Tryz.sizeOf9
 have hS : Tryz.prog.underlying 124 = some (.struct (Tryz.prog.fieldsOf 124)) := by kernel_rfl
 have hp : Tryz.prog.stoodInHeld 124 = false := by kernel_rfl
 rw [run_eql_struct, show (10000 : Nat) = 9999 + 1 from rfl, run_equalIn_agg w 9999 124 _ _ hS hp]
 simp only [Program.fieldsOf, Tryz.underlying124]
 go_simp
 have hiff : (b.data.toList = d.data.toList) ↔ b = d := ⟨bT, fun e => by rw [e]⟩
 by_cases h1 : a = c <;> by_cases h2 : b = d <;> simp [eqB, h1, h2, ByteArray.toList_eq, hiff]
theorem guardK (op : BinOp) (p q : Operand) (xs ys : Array Value) (w : World) : (eqGuard op 124 p q (.agg xs) (.agg ys)).run Tryz.prog w = .ok () w :=
 run_eqGuard_agg w op 124 p q xs ys (by kernel_rfl)
end Go.Proofs.YtclcgakfmcofaaaGreatDoor
namespace Go.Proofs.YtclcgakfmcofaaaGreatDoor
open Go.RowKit Go.Shelf
open Go.Sort (grow)
shelf_lay_g SlLaysC2.n5 Slgc 5 at Tryz 158 as Tryz.cmpInt
theorem cmpint_any (x y : Int) (w : World) : Calls Tryz.prog 158 #[.int .i64 x, .int .i64 y] w fun e w' => e = .returned (.int .i64 (Lib.compareInt x y)) ∧ w' = w := by
 have h := AnyG.cmp_Compare_int Tryz.cmpInt x y w
 exact h
theorem nJ (a b : ByteArray) (w : World) :
  Calls Tryz.prog 196 #[.string a, .string b] w fun e w' => e = .returned (.int .i64 (Lib.compareBytes a.data.toList b.data.toList)) ∧ w' = w := by
 go_enter Tryz.func196, Tryz.ntmps196
 go_wp2
 rw [run_callFunc_extern Tryz.func220 (by kernel_rfl) (by kernel_rfl) (by kernel_rfl) (e := Extern.BytealgCompare.compare) (by kernel_rfl), Lib.run_compareString]
 simp only [Result.andThen]
 rw [Oper.upon_value]
 go_wp2
 go_ret
 exact ⟨rfl, rfl⟩
theorem scompare_any (a b : ByteArray) (w : World) :
  Calls Tryz.prog 159 #[.string a, .string b] w fun e w' => e = .returned (.int .i64 (Lib.compareBytes a.data.toList b.data.toList)) ∧ w' = w := by
 go_enter Tryz.func159, Tryz.ntmps159
 go_wp2_with (go_at_call 196; refine (nJ _ _ _).mono ?_; rintro e w' ⟨rfl, rfl⟩)
 go_ret
 exact ⟨rfl, rfl⟩
theorem kcmp_any (x y : Ky) (W : World) : Calls Tryz.prog 125 #[.agg #[.int .i64 x.1, .string x.2], .agg #[.int .i64 y.1, .string y.2]] W fun e w' => e = .returned (.int .i64 (cfK x y)) ∧ ∃ q os', w' = grow (W.drewN q) os' := by
 have hcon := fun W' => cmpint_any x.1 y.1 W'
 have hcon2 := fun W' => scompare_any x.2 y.2 W'
 rw [cfK_eq]
 generalize Lib.compareInt x.1 y.1 = r at hcon ⊢
 generalize Lib.compareBytes x.2.data.toList y.2.data.toList = r2 at hcon2 ⊢
 by_cases hr : r = 0
 ·subst hr
  go_enter Tryz.func125, Tryz.ntmps125
  go_wp2_with (first | (go_at_call 158; refine (hcon _).mono ?_; rintro e w' ⟨rfl, rfl⟩) | (go_at_call 159; refine (hcon2 _).mono ?_; rintro e w' ⟨rfl, rfl⟩))
  go_ret
  exact ⟨rfl, 0, _, by rw [Go.Sort.alloc_eq_grow, Go.Sort.alloc_eq_grow, Go.Sort.grow_grow]; rfl⟩
 ·go_enter Tryz.func125, Tryz.ntmps125
  go_wp2_with (first | (go_at_call 158; refine (hcon _).mono ?_; rintro e w' ⟨rfl, rfl⟩) | (go_at_call 159; refine (hcon2 _).mono ?_; rintro e w' ⟨rfl, rfl⟩))
  go_ret
  exact ⟨rfl, 0, _, by rw [Go.Sort.alloc_eq_grow, Go.Sort.alloc_eq_grow, Go.Sort.grow_grow]; rfl⟩
theorem mx (W : World) (q : Nat) (os : Array Obj) : Below W.heap.size W (grow (W.drewN q) os) :=
 ⟨rfl, rfl, rfl, by simp [grow], fun k hk => by
  show (W.heap ++ os)[k]? = W.heap[k]?
  rw [Array.getElem?_append_left hk]⟩
theorem rcmp_any (x y : Ky) (W : World) : Calls Tryz.prog 117 #[.agg #[.int .i64 x.1, .string x.2], .agg #[.int .i64 y.1, .string y.2]] W fun e w' => e = .returned (.int .i64 (cfK x y)) ∧ Below W.heap.size W w' := by
 obtain ⟨a, b⟩ := x
 obtain ⟨c, d⟩ := y
 have hg := guardK
 have he := eqK a c b d
 unfold cfK
 by_cases h1 : a < c
 ·have hlt : dk (a, b) (c, d) = true := by simp [dk, h1]
  rw [hlt]
  go_enter Tryz.func117, Tryz.ntmps117
  go_wp2
  go_ret
  exact ⟨rfl, ((Below.refl _ _).alloc (Nat.le_refl _) _).alloc (by simp) _⟩
 ·by_cases h2 : a = c
  ·subst h2
   have hlt : dk (a, b) (a, d) = Op.bytesLess b.toList d.toList := by simp [dk, ByteArray.toList_eq]
   rw [hlt]
   have e2 : ((a, b) = (a, d)) = (eqB (a, b) (a, d) = true) := by simp [eqB]
   simp only [e2]
   clear hlt e2
   generalize eqB (a, b) (a, d) = r2 at he ⊢
   cases hr : Op.bytesLess b.toList d.toList
   ·cases r2
    all_goals
     go_enter Tryz.func117, Tryz.ntmps117
     go_wp2
     go_ret
     exact ⟨rfl, ((Below.refl _ _).alloc (Nat.le_refl _) _).alloc (by simp) _⟩
   ·go_enter Tryz.func117, Tryz.ntmps117
    go_wp2
    go_ret
    exact ⟨rfl, ((Below.refl _ _).alloc (Nat.le_refl _) _).alloc (by simp) _⟩
  ·have hlt : dk (a, b) (c, d) = false := by simp [dk, h1, h2]
   have hne : ¬ ((a, b) = (c, d)) := fun e => h2 (by injection e)
   have he2 : eqB (a, b) (c, d) = false := by simp [eqB]; exact fun e => absurd e h2
   rw [hlt, if_neg (by decide), if_neg hne]
   rw [he2] at he
   go_enter Tryz.func117, Tryz.ntmps117
   go_wp2
   go_ret
   exact ⟨rfl, ((Below.refl _ _).alloc (Nat.le_refl _) _).alloc (by simp) _⟩
end Go.Proofs.YtclcgakfmcofaaaGreatDoor
namespace Go.Proofs.YtclcgakfmcofaaaGreatDoor
open Go.Sort
theorem lt_cfK (x y : Ky) : ltOf cfK x y = dk x y := by
 unfold ltOf cfK
 by_cases h : dk x y = true
 ·simp [h]
 ·have h' : dk x y = false := by simpa using h
  by_cases h2 : x = y
  ·rw [if_neg h, if_pos h2, h']; rfl
  ·rw [if_neg h, if_neg h2, h']; rfl
theorem cfK_lt0 (x y : Ky) : decide (cfK x y < 0) = dk x y := lt_cfK x y
def Srt (l s : List Ky) : Prop := s.Perm l ∧ s.Pairwise (fun x y => dk y x = false)
theorem Srt.nil : Srt [] [] := ⟨.nil, .nil⟩
def cnt (l : List Ky) (x : Ky) : Nat := l.countP fun y => decide (y = x)
def Cnt (l ks : List Ky) (ms : List Int) : Prop := ks.Pairwise (fun x y => dk x y = true) ∧ (∀ x, x ∈ ks ↔ x ∈ l) ∧ ms = ks.map fun x => (cnt l x : Int)
theorem Cnt.nil : Cnt [] [] [] := ⟨.nil, by simp, rfl⟩
end Go.Proofs.YtclcgakfmcofaaaGreatDoor
