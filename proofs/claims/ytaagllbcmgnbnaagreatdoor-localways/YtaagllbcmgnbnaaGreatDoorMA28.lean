/- Texts laid together: MRMap, MOkP. -/
import Derived.Test.YtaagllbcmgnbnaaGreatDoorMA20
import Derived.Test.YtaagllbcmgnbnaaGreatDoorMA21
import Derived.Test.YtaagllbcmgnbnaaGreatDoorMA22
import Derived.Test.YtaagllbcmgnbnaaGreatDoorMA23
import Derived.Test.YtaagllbcmgnbnaaGreatDoorMA24
import Derived.Test.YtaagllbcmgnbnaaGreatDoorMA25
import Derived.Test.YtaagllbcmgnbnaaGreatDoorMA26
import Derived.Test.YtaagllbcmgnbnaaGreatDoorMA27
import Derived.Test.YtaagllbcmgnbnaaGreatDoorMA13
/- The page's own Map: what a program emits of records. -/
namespace Go.Proofs.YtaagllbcmgnbnaaGreatDoor
open Go.RowKit
set_option linter.unusedVariables false
set_option maxRecDepth 100000
/-- The block of a job. -/
def BlkJ (W : World) (b : Nat) (j : Jb) (v : Value) : Prop := W.heap[b]? = some (.cells #[.int .i64 j.id, .string j.prog, .int .i64 j.agg, .int .i64 j.bound, .int .i64 j.fuel, v, .int .i64 j.parts] 51 (0, 0))
theorem BlkJ.new (W : World) (j : Jb) (v : Value) : BlkJ (W.alloc (.cells #[.int .i64 j.id, .string j.prog, .int .i64 j.agg, .int .i64 j.bound, .int .i64 j.fuel, v, .int .i64 j.parts] 51)) W.heap.size j v := heap_alloc_new W _
theorem BlkJ.lt {W : World} {b : Nat} {j : Jb} {v : Value} (h : BlkJ W b j v) : b < W.heap.size := (Array.getElem?_eq_some_iff.1 h).1
theorem BlkJ.below {W W' : World} {b : Nat} {j : Jb} {v : Value} (h : BlkJ W b j v) (hb : Below W.heap.size W W') : BlkJ W' b j v := by unfold BlkJ; rw [hb.block b h.lt]; exact h
theorem BlkJ.cells {W : World} {b : Nat} {j : Jb} {v : Value} (h : BlkJ W b j v) : W.cell? ⟨b, 0, none⟩ = some (.int .i64 j.id) ∧ W.cell? ⟨b, 1, none⟩ = some (.string j.prog) ∧ W.cell? ⟨b, 2, none⟩ = some (.int .i64 j.agg) ∧ W.cell? ⟨b, 3, none⟩ = some (.int .i64 j.bound) ∧ W.cell? ⟨b, 4, none⟩ = some (.int .i64 j.fuel) ∧ W.cell? ⟨b, 5, none⟩ = some v ∧ W.cell? ⟨b, 6, none⟩ = some (.int .i64 j.parts) := by
  unfold BlkJ at h
  refine ⟨?_, ?_, ?_, ?_, ?_, ?_, ?_⟩ <;> simp [World.cell?, h]
theorem OwnR.down3 {w : World} {base base' : Nat} {v : Value} {l : List Rc} (h : OwnR w base v l) (hb : base' ≤ base) : OwnR w base' v l := by
  refine ⟨h.1, ?_⟩
  rcases h.2 with ⟨h1, h2⟩ | ⟨g, cap, cur, h1, h2, h3, h4⟩
  · exact .inl ⟨h1, h2⟩
  · exact .inr ⟨g, cap, cur, h1, by omega, h3, h4⟩
theorem mapP_err (c agg bound fu : Int) (l : List Rc) : mapP (.err c) agg bound fu l = ([], c) := rfl
theorem mapP_need {f : Fo} {ws : List (List UInt8)} {m : Nat} {agg bound fu : Int} {l : List Rc} (h : cE f ≠ 0) : mapP (.ok f ws m) agg bound fu l = ([], cE f) := by unfold mapP; simp only; rw [if_pos h]
theorem mapP_form {f : Fo} {ws : List (List UInt8)} {m : Nat} {agg bound fu : Int} {l : List Rc} (h : cE f = 0) (hm : mayM agg bound fu l = false) : mapP (.ok f ws m) agg bound fu l = ([], 1) := by unfold mapP; simp only; rw [if_neg (by simpa using h), if_neg (by rw [hm]; decide)]
theorem mapP_run {f : Fo} {ws : List (List UInt8)} {m : Nat} {agg bound fu : Int} {l : List Rc} (h : cE f = 0) (hm : mayM agg bound fu l = true) : mapP (.ok f ws m) agg bound fu l = mapL f fu l [] := by unfold mapP; simp only; rw [if_neg (by simpa using h), if_pos hm]
theorem mapRes_of {j : Jb} {r : Rs} (h : Prog j.prog r) (l : List Rc) : mapRes j l = mapP r j.agg j.bound j.fuel l := by unfold mapRes; rw [progOf_eq h]
theorem mapL_cons (f : Fo) (fu : Int) (x : Rc) (l acc : List Rc) : mapL f fu (x :: l) acc = if (runR f x fu).1 ≠ 0 then ([], (runR f x fu).1) else if 256 < (acc ++ (runR f x fu).2.2).length then ([], 2) else mapL f fu l (acc ++ (runR f x fu).2.2) := rfl
theorem runR_len256 (f : Fo) (x : Rc) (fu : Int) : (runR f x fu).2.2.length ≤ 256 := by
  unfold runR
  split
  · simp
  · next h1 =>
    split
    · simp
    · next h2 =>
      cases he : ev x f ⟨fu.toNat, [], []⟩ with
      | err c => simp
      | ok s =>
        obtain ⟨hm, p, hn⟩ := cE_zero (by simpa using h1)
        exact (ev_keeps x f 0 0 0 0 0 p ⟨fu.toNat, [], []⟩ s hm.1 hn (by omega) ⟨rfl, by simp⟩ he).1.out
end Go.Proofs.YtaagllbcmgnbnaaGreatDoor
/- What stands where Map answers records. -/
namespace Go.Proofs.YtaagllbcmgnbnaaGreatDoor
open Go.RowKit
set_option linter.unusedVariables false
set_option maxRecDepth 100000

theorem pl_err : ∀ (fu d : Nat) (ws : List (List UInt8)) (m : Nat) (c : Int), pl fu d ws m = some (.err c) → c ≠ 0 := by
  intro fu
  induction fu with
  | zero => intro d ws m c h; simp [pl] at h
  | succ fu ih =>
    intro d ws m c h
    cases ws with
    | nil =>
      rw [pl] at h
      split at h
      · injection h with h; injection h with h; omega
      · injection h with h; cases h
    | cons w ws =>
      rw [pl] at h
      by_cases h1 : w = shutW ∧ 0 < d
      · rw [if_pos h1] at h; injection h with h; cases h
      rw [if_neg h1] at h
      cases ho : opW w with
      | none => rw [ho] at h; simp only at h; injection h with h; injection h with h; omega
      | some kn =>
        obtain ⟨k, n⟩ := kn
        rw [ho] at h
        simp only at h
        by_cases h2 : m = 128
        · rw [if_pos h2] at h; injection h with h; injection h with h; omega
        rw [if_neg h2] at h
        cases hb : hasB k with
        | false =>
          rw [hb, if_neg (by simp)] at h
          cases hp : pl fu d ws (m + 1) with
          | none => rw [hp] at h; simp at h
          | some r' =>
            rw [hp] at h
            cases r' with
            | err e =>
              simp only [Option.map_some, Rs.pre] at h
              injection h with h
              injection h with h
              subst h
              exact ih _ _ _ _ hp
            | ok f w2 m2 => simp only [Option.map_some, Rs.pre] at h; injection h with h; cases h
        | true =>
          rw [hb, if_pos rfl] at h
          cases ws with
          | nil => simp only at h; injection h with h; injection h with h; omega
          | cons x ws =>
            simp only at h
            by_cases h3 : x ≠ openW
            · rw [if_pos h3] at h; injection h with h; injection h with h; omega
            rw [if_neg h3] at h
            by_cases h4 : 6 < d + 1
            · rw [if_pos h4] at h; injection h with h; injection h with h; omega
            rw [if_neg h4] at h
            cases hp : pl fu (d + 1) ws (m + 1) with
            | none => rw [hp] at h; simp at h
            | some r' =>
              rw [hp] at h
              cases r' with
              | err e =>
                simp only at h
                injection h with h
                injection h with h
                subst h
                exact ih _ _ _ _ hp
              | ok f w2 m2 =>
                simp only at h
                cases hq : pl fu d w2 m2 with
                | none => rw [hq] at h; simp at h
                | some r2 =>
                  rw [hq] at h
                  cases r2 with
                  | err e =>
                    simp only [Option.map_some, Rs.pre] at h
                    injection h with h
                    injection h with h
                    subst h
                    exact ih _ _ _ _ hq
                  | ok f2 w3 m3 => simp only [Option.map_some, Rs.pre] at h; injection h with h; cases h
theorem progOf_err {s : ByteArray} {c : Int} (h : progOf s = .err c) : c ≠ 0 := by
  unfold progOf at h
  by_cases he : ∃ r, Prog s r
  · rw [dif_pos he] at h
    have hp := Classical.choose_spec he
    rw [h] at hp
    unfold Prog at hp
    split at hp
    · injection hp with hp; omega
    · obtain ⟨fu, hp⟩ := hp
      exact pl_err _ _ _ _ _ hp
  · rw [dif_neg he] at h
    injection h with h
    omega
theorem progOf_prog {s : ByteArray} {f : Fo} {ws : List (List UInt8)} {m : Nat} (h : progOf s = .ok f ws m) : Prog s (.ok f ws m) := by
  unfold progOf at h
  by_cases he : ∃ r, Prog s r
  · rw [dif_pos he] at h
    have hp := Classical.choose_spec he
    rw [h] at hp
    exact hp
  · rw [dif_neg he] at h
    cases h
theorem mapL_fine {f : Fo} {fu : Int} (hw : WfN f) : ∀ (l acc : List Rc), (∀ x ∈ l, Wr x ∧ x.1.2.size ≤ 64) → (∀ x ∈ acc, Wr x ∧ x.1.2.size ≤ 64) → ∀ x ∈ (mapL f fu l acc).1, Wr x ∧ x.1.2.size ≤ 64
  | [], acc, _, ha => ha
  | x :: l, acc, hl, ha => by
    rw [mapL]
    split
    · simp
    · split
      · simp
      · refine mapL_fine hw l _ (fun y hy => hl y (List.mem_cons_of_mem _ hy)) fun y hy => ?_
        rcases List.mem_append.1 hy with hy | hy
        · exact ha y hy
        · obtain ⟨h1, h2⟩ := runR_wf fu hw (hl x (List.mem_cons_self ..)).1 y hy
          exact ⟨h1, by rw [h2]; exact (hl x (List.mem_cons_self ..)).2⟩
/-- What is told by an answer without an error. -/
structure MapOk (j : Jb) (l M : List Rc) : Prop where
  way : wayC j.agg j.bound = true
  wf : Wf M
  keys : keysOk M = true
  len : M.length ≤ 256
theorem mapRes_ok {j : Jb} {l : List Rc} (hl : Wf l) (h : (mapRes j l).2 = 0) : MapOk j l (mapRes j l).1 := by
  have hlen := mapP_len (progOf j.prog) j.agg j.bound j.fuel l
  unfold mapRes at h ⊢
  cases hp : progOf j.prog with
  | err c =>
    rw [hp] at h
    exact absurd h (progOf_err hp)
  | ok f ws m =>
    obtain ⟨hMay, hWN, -, -⟩ := prog_ok (progOf_prog hp)
    rw [hp] at h hlen
    unfold mapP at h hlen ⊢
    simp only at h hlen ⊢
    by_cases h1 : cE f ≠ 0
    · rw [if_pos h1] at h; exact absurd h h1
    · rw [if_neg h1] at h hlen ⊢
      by_cases h2 : mayM j.agg j.bound j.fuel l = true
      · rw [if_pos h2] at h hlen ⊢
        unfold mayM at h2
        simp only [Bool.and_eq_true] at h2
        obtain ⟨g1, -, -, g4⟩ := h2
        have hf := mapL_fine (fu := j.fuel) hWN l [] (fun x hx => ⟨hl x hx, by
          unfold keysOk at g4
          rw [List.all_eq_true] at g4
          exact of_decide_eq_true (g4 x hx)⟩) (by simp)
        refine ⟨g1, fun x hx => (hf x hx).1, ?_, hlen⟩
        unfold keysOk
        rw [List.all_eq_true]
        exact fun x hx => decide_eq_true (hf x hx).2
      · rw [if_neg h2] at h
        exact absurd h (by decide)
end Go.Proofs.YtaagllbcmgnbnaaGreatDoor
