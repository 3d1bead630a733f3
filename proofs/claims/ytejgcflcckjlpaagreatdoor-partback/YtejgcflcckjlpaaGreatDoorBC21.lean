/- How two keys stand: cmp.Compare, strings.Compare, key.Cmp, the page's own Cmp. -/
import Derived.Test.YtejgcflcckjlpaaGreatDoorRows
import Derived.Test.YtejgcflcckjlpaaGreatDoorBC1M
import Derived.Test.YtejgcflcckjlpaaGreatDoorBC20
import Derived.WalkKit
import Derived.WalkSpells
import Derived.Lib.Strings
import Derived.Lib.Walk
import Derived.Lib.Bytealg
import Derived.Shelf.SlGeneric
import Derived.Shelf.SlicesG.Cmp
import Derived.Ground.SlgcProg
import Derived.Laws.StructEq
import Derived.Sort.Grow
import Derived.Deep.QuietTactic
namespace Go.Proofs.YtejgcflcckjlpaaGreatDoor
open Go.RowKit Go.Shelf
open Go.Sort (grow)
set_option linter.unusedVariables false
set_option maxRecDepth 100000

shelf_lay_g SlLaysC2.n5 Slgc 5 at Tryz 64 as Tryz.cmpInt

theorem cmpint_any (x y : Int) (w : World) : Calls Tryz.prog 64 #[.int .i64 x, .int .i64 y] w fun e w' => e = .returned (.int .i64 (Lib.compareInt x y)) ∧ w' = w := by
  have h := AnyG.cmp_Compare_int Tryz.cmpInt x y w
  exact h

/-! ### strings.Compare -/
set_option maxHeartbeats 1000000 in
set_option maxRecDepth 100000 in
theorem cmpString_any (a b : ByteArray) (w : World) :
    Calls Tryz.prog 74 #[.string a, .string b] w fun e w' => e = .returned (.int .i64 (Lib.compareBytes a.data.toList b.data.toList)) ∧ w' = w := by
  go_enter Tryz.func74, Tryz.ntmps74
  go_wp2
  rw [run_callFunc_extern Tryz.func91 (by kernel_rfl) (by kernel_rfl) (by kernel_rfl) (e := Extern.BytealgCompare.compare) (by kernel_rfl), Lib.run_compareString]
  simp only [Result.andThen]
  rw [Oper.upon_value]
  go_wp2
  go_ret
  exact ⟨rfl, rfl⟩
set_option maxHeartbeats 1000000 in
theorem scompare_any (a b : ByteArray) (w : World) :
    Calls Tryz.prog 65 #[.string a, .string b] w fun e w' => e = .returned (.int .i64 (Lib.compareBytes a.data.toList b.data.toList)) ∧ w' = w := by
  go_enter Tryz.func65, Tryz.ntmps65
  go_wp2_with (go_at_call 74; refine (cmpString_any _ _ _).mono ?_; rintro e w' ⟨rfl, rfl⟩)
  go_ret
  exact ⟨rfl, rfl⟩

/-! ### key.Cmp -/
set_option maxHeartbeats 1000000 in
theorem kcmp_any (x y : Ky) (W : World) : Calls Tryz.prog 53 #[.agg #[.int .i64 x.1, .string x.2], .agg #[.int .i64 y.1, .string y.2]] W fun e w' => e = .returned (.int .i64 (cfK x y)) ∧ ∃ q os', w' = grow (W.drewN q) os' := by
  have hcon := fun W' => cmpint_any x.1 y.1 W'
  have hcon2 := fun W' => scompare_any x.2 y.2 W'
  rw [cfK_eq]
  generalize Lib.compareInt x.1 y.1 = r at hcon ⊢
  generalize Lib.compareBytes x.2.data.toList y.2.data.toList = r2 at hcon2 ⊢
  by_cases hr : r = 0
  · subst hr
    go_enter Tryz.func53, Tryz.ntmps53
    go_wp2_with (first | (go_at_call 64; refine (hcon _).mono ?_; rintro e w' ⟨rfl, rfl⟩) | (go_at_call 65; refine (hcon2 _).mono ?_; rintro e w' ⟨rfl, rfl⟩))
    go_ret
    exact ⟨rfl, 0, _, by rw [Go.Sort.alloc_eq_grow, Go.Sort.alloc_eq_grow, Go.Sort.grow_grow]; rfl⟩
  · go_enter Tryz.func53, Tryz.ntmps53
    go_wp2_with (first | (go_at_call 64; refine (hcon _).mono ?_; rintro e w' ⟨rfl, rfl⟩) | (go_at_call 65; refine (hcon2 _).mono ?_; rintro e w' ⟨rfl, rfl⟩))
    go_ret
    exact ⟨rfl, 0, _, by rw [Go.Sort.alloc_eq_grow, Go.Sort.alloc_eq_grow, Go.Sort.grow_grow]; rfl⟩

theorem below_grow (W : World) (q : Nat) (os : Array Obj) : Below W.heap.size W (grow (W.drewN q) os) :=
  ⟨rfl, rfl, rfl, by simp [grow], fun k hk => by
    show (W.heap ++ os)[k]? = W.heap[k]?
    rw [Array.getElem?_append_left hk]⟩

/-- The page's own Cmp. -/
theorem rcmp_any (x y : Ky) (W : World) : Calls Tryz.prog 13 #[.agg #[.int .i64 x.1, .string x.2], .agg #[.int .i64 y.1, .string y.2]] W fun e w' => e = .returned (.int .i64 (cfK x y)) ∧ Below W.heap.size W w' := by
  obtain ⟨a, b⟩ := x
  obtain ⟨c, d⟩ := y
  have hg := guardK
  have he := eqK a c b d
  unfold cfK
  by_cases h1 : a < c
  · have hlt : ltK (a, b) (c, d) = true := by simp [ltK, h1]
    rw [hlt]
    go_enter Tryz.func13, Tryz.ntmps13
    go_wp2
    go_ret
    exact ⟨rfl, ((Below.refl _ _).alloc (Nat.le_refl _) _).alloc (by simp) _⟩
  · by_cases h2 : a = c
    · subst h2
      have hlt : ltK (a, b) (a, d) = Op.bytesLess b.toList d.toList := by simp [ltK, ByteArray.toList_eq]
      rw [hlt]
      have e2 : ((a, b) = (a, d)) = (eqB (a, b) (a, d) = true) := by simp [eqB]
      simp only [e2]
      clear hlt e2
      generalize eqB (a, b) (a, d) = r2 at he ⊢
      cases hr : Op.bytesLess b.toList d.toList
      · cases r2
        all_goals
          go_enter Tryz.func13, Tryz.ntmps13
          go_wp2
          go_ret
          exact ⟨rfl, ((Below.refl _ _).alloc (Nat.le_refl _) _).alloc (by simp) _⟩
      · go_enter Tryz.func13, Tryz.ntmps13
        go_wp2
        go_ret
        exact ⟨rfl, ((Below.refl _ _).alloc (Nat.le_refl _) _).alloc (by simp) _⟩
    · have hlt : ltK (a, b) (c, d) = false := by simp [ltK, h1, h2]
      have hne : ¬ ((a, b) = (c, d)) := fun e => h2 (by injection e)
      have he2 : eqB (a, b) (c, d) = false := by simp [eqB]; exact fun e => absurd e h2
      rw [hlt, if_neg (by decide), if_neg hne]
      rw [he2] at he
      go_enter Tryz.func13, Tryz.ntmps13
      go_wp2
      go_ret
      exact ⟨rfl, ((Below.refl _ _).alloc (Nat.le_refl _) _).alloc (by simp) _⟩

end Go.Proofs.YtejgcflcckjlpaaGreatDoor
