/- What the library's own answers, and the variables that it reads. -/
import Derived.Test.YtaaijlkjbmpegaaDoorLLay
import Derived.Test.YtaaijlkjbmpegaaDoorLOps
import Derived.Test.YtaaijlkjbmpegaaDoorSStr
namespace Go.Proofs.YtaaijlkjbmpegaaDoor
open Go.RowKit Go.Shelf
set_option linter.unusedVariables false
set_option maxRecDepth 100000

/-- The table of words as a value. -/
def tabV : Array Value := (tab.map fun l => Value.string (ba l)).toArray
theorem tabV_at (k : Nat) (h : k < 31) : tabV[k]? = some (.string (ba (tab.getD k []))) := by
  have hk : k < tab.length := h
  simp [tabV, List.getElem?_eq_getElem hk]
theorem tabV_size : tabV.size = 31 := rfl
/-- The variables at package level, as the program's text lays them. -/
structure Env (w : World) : Prop where
  table : ∃ t fr, w.heap[0]? = some (.cells tabV t fr)
  syn : ∃ ev, w.cell? ⟨Tryd.lays174_ren.g 15, 0, none⟩ = some ev ∧ (ev = .nilIface ∨ ∃ te pe, ev = .iface te pe)
  rng : ∃ ev, w.cell? ⟨Tryd.lays174_ren.g 16, 0, none⟩ = some ev ∧ (ev = .nilIface ∨ ∃ te pe, ev = .iface te pe)
  pow : Lib.TabIs Tryd.prog w "internal/strconv.uint64pow10" .u64 Lib.pow10Tab
  size : 7 ≤ w.heap.size
theorem gPow : Tryd.prog.globalNamed "internal/strconv.uint64pow10" = some 2 := by kernel_rfl
theorem gSyn : Tryd.lays174_ren.g 15 = 3 := rfl
theorem gRng : Tryd.lays174_ren.g 16 = 4 := rfl
theorem Env.of_blocks {w w' : World} (h : Env w) (hb : ∀ k, k < 7 → w'.heap[k]? = w.heap[k]?) (hs : w.heap.size ≤ w'.heap.size) : Env w' := by
  refine ⟨?_, ?_, ?_, ?_, Nat.le_trans h.size hs⟩
  · rw [hb 0 (by omega)]; exact h.table
  · obtain ⟨ev, h1, h2⟩ := h.syn
    exact ⟨ev, by rw [World.cell?_of_block (a := ⟨Tryd.lays174_ren.g 15, 0, none⟩) (hb 3 (by omega))]; exact h1, h2⟩
  · obtain ⟨ev, h1, h2⟩ := h.rng
    exact ⟨ev, by rw [World.cell?_of_block (a := ⟨Tryd.lays174_ren.g 16, 0, none⟩) (hb 4 (by omega))]; exact h1, h2⟩
  · have := h.pow
    unfold Lib.TabIs World.var? at this ⊢
    rw [gPow] at this ⊢
    simp only [Option.bind_some, hb 2 (by omega)] at this ⊢
    exact this
theorem Env.words {w : World} (h : Env w) (k : Nat) (hk : k < 31) : w.cell? ⟨0, k, none⟩ = some (.string (ba (tab.getD k []))) := by
  obtain ⟨t, fr, h⟩ := h.table
  simp only [World.cell?, h]
  simpa using tabV_at k hk
theorem Env.below {w w' : World} {B : Nat} (h : Env w) (hb : Below B w w') (h7 : 7 ≤ B) : Env w' := h.of_blocks (fun k hk => hb.block k (by omega)) hb.size
theorem Env.low {w w' : World} (h : Env w) (hb : Below w.heap.size w w') : Env w' := h.below hb h.size
theorem Env.grown {w w' : World} {R : Nat} (h : Env w) (hg : w.grownBy w' (some R)) (hR : 7 ≤ R) : Env w' := h.of_blocks (fun k hk => hg.block k (by have := h.size; omega) (fun e => by injection e; omega)) hg.size
theorem Env.drewN {w : World} (h : Env w) (q : Nat) : Env (w.drewN q) := h.of_blocks (fun _ _ => rfl) (Nat.le_refl _)

/-! ### isBlank, FieldsFunc -/
theorem blank_any (r : Nat) (w : World) (hr : r ≤ 1114111) : Calls Tryd.prog 23 #[.int .i32 r] w fun e w' => e = .returned (.bool (blankR r)) ∧ w' = w := by
  unfold blankR
  by_cases h1 : r = 32
  · subst h1
    go_enter Tryd.func23, Tryd.ntmps23
    go_wp2
    go_ret
    exact ⟨rfl, rfl⟩
  · have h1' : ((r : Int) == 32) = false := beq_eq_false_iff_ne.2 (by omega)
    by_cases h2 : r = 10
    · subst h2
      go_enter Tryd.func23, Tryd.ntmps23
      go_wp2
      go_ret
      exact ⟨rfl, rfl⟩
    · have h2' : ((r : Int) == 10) = false := beq_eq_false_iff_ne.2 (by omega)
      have e1 : (r == 32) = false := beq_eq_false_iff_ne.2 h1
      have e2 : (r == 10) = false := beq_eq_false_iff_ne.2 h2
      have e3 : (r == 32 || r == 10) = false := by rw [e1, e2]; rfl
      rw [e3]
      go_enter Tryd.func23, Tryd.ntmps23
      go_wp2
      go_ret
      exact ⟨rfl, rfl⟩
theorem Tryd.info68 : (Tryd.prog.info? (Tryd.lays229_ren.t 154)).map (fun i => (i.zero, i.size, i.bytes)) = some (some (.agg #[.int .i64 0, .int .i64 0]), 2, 16) := by kernel_rfl
theorem Tryd.info9 : (Tryd.prog.info? (Tryd.lays229_ren.t 9)).map (fun i => (i.zero, i.size, i.bytes)) = some (some (.string ⟨#[]⟩), 1, 16) := by kernel_rfl
theorem blank_pays (w : World) : PredAtRunes Tryd.prog 23 #[] blankR w := by
  intro W x hx hb
  exact (blank_any x W hx).mono fun e w' ⟨he, hw⟩ => ⟨he, 0, hw⟩
theorem fields_any (s : ByteArray) (w : World) (hs : s.size ≤ 512) :
    Calls Tryd.prog 22 #[.string s, .func (.func 23) #[] #[]] w fun e w' => ∃ v, e = .returned v ∧ OwnS w' w.heap.size v (splitB s) ∧ Below w.heap.size w w' := by
  have h := Any.strings_FieldsFunc_runes Tryd.lays229 23 #[] (enters_of Tryd.func23 (by kernel_rfl) rfl) blankR s w (by omega) (blank_pays w) Tryd.info68 Tryd.info9
  rw [fields_split] at h
  refine h.mono fun e w' ⟨A, he, hA, ho, hb⟩ => ⟨_, he, ?_, hb⟩
  exact ho
end Go.Proofs.YtaaijlkjbmpegaaDoor
