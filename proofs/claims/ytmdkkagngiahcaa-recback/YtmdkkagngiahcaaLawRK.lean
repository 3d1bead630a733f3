/- The law RecBack's walk: it answers true, whatever ask comes in; it writes nothing that was there. -/
import Derived.Test.YtmdkkagngiahcaaRAsk
import Derived.Test.YtmdkkagngiahcaaRText
namespace Go.Proofs.Ytmdkkagngiahcaa
open Go.RowKit
set_option linter.unusedVariables false

/-- The first k records of the law's own. -/
def mk (k : Nat) : List Rc := (List.range k).map fun (j : Nat) => (k0, (j : Int))
theorem mk_len (k : Nat) : (mk k).length = k := by simp [mk]
theorem mk_succ (k : Nat) : mk (k + 1) = mk k ++ [((0, ⟨#[]⟩), (k : Int))] := by simp [mk, List.range_succ]
theorem mk_wf (k : Nat) (hk : k ≤ 65) : Wf (mk k) := by
  intro x hx
  obtain ⟨j, hj, rfl⟩ := List.mem_map.1 hx
  rw [List.mem_range] at hj
  exact ⟨by simp, by simp, Nat.zero_le _, by simp only; omega, by simp only; omega⟩
theorem mk_good (k : Nat) : Good (mk k) := by
  intro x hx
  obtain ⟨j, hj, rfl⟩ := List.mem_map.1 hx
  exact Nat.zero_le _
theorem mk_txt (k : Nat) (hk : k ≤ 64) : txtOf (mk k) = (cat (mk k), 0) := by
  unfold txtOf; rw [if_neg (by rw [mk_len]; omega), if_pos (mk_good k)]
theorem mk_size (k : Nat) (hk : k ≤ 64) : (cat (mk k)).size ≤ 6016 := by
  have := cat_len (mk k) (mk_good k)
  rw [mk_len] at this
  omega
theorem mk_over : txtOf (mk 65) = (⟨#[]⟩, 2) := txt_many (by rw [mk_len]; decide)
theorem all_ok {l : List Rc} (h : Wf l) (hg : Good l) : ∀ x ∈ l, Okr x := fun x hx => (h x hx).ok (hg x hx)
theorem mk_all (k : Nat) (hk : k ≤ 64) : allOf (cat (mk k)) = (mk k, 0) := allOf_cat _ (by rw [mk_len]; exact hk) (all_ok (mk_wf k (by omega)) (mk_good k))
/-- What Text tells without error is read back. -/
theorem txt_back {l : List Rc} (h : Wf l) {t : ByteArray} (ht : txtOf l = (t, 0)) : allOf t = (l, 0) := by
  unfold txtOf at ht
  split at ht
  · injection ht with _ ht; exact absurd ht (by decide)
  · split at ht
    · next h64 hg => injection ht with ht _; subst ht; exact allOf_cat l (by omega) (all_ok h hg)
    · injection ht with _ ht; exact absurd ht (by decide)

set_option maxRecDepth 100000 in
set_option maxHeartbeats 1600000 in
theorem lawrk (v : Value) (x : ByteArray) (l : List Rc) (w : World) (h : RS w v l) (hl : l.length ≤ 4398046510976) (hwf : Wf l) (hx : x.size ≤ maxLen) :
    Calls Try.prog 5 #[.agg #[v, .string x]] w fun e w' => e = .returned (.bool true) ∧ Below w.heap.size w w' := by
  obtain ⟨i0, hi, hz0, hz1, hz2⟩ := info_parts Try.infoRec
  have hR0 := AskRel.start w v x l 24 h
  go_enter Try.func5, Try.ntmps5
  go_wp2_with fail
  refine (heavy_any _ x l _ hR0.rs hl hwf).mono ?_
  rintro e w1 ⟨⟨r, rfl, hr⟩, hb1⟩
  have hR1 := hR0.step hb1
  clear hR0 hb1
  cases r
  · obtain ⟨hl2, hx2⟩ := hr rfl
    clear hr
    have hlm : l.length ≤ maxLen := by unfold maxLen; omega
    have hT0 := fun v W hW => text4_any v l W hW hwf hlm
    have htl := txtOf_len l
    simp only [TextPost] at hT0
    obtain ⟨t, te, ht⟩ : ∃ t te, txtOf l = (t, te) := ⟨_, _, rfl⟩
    have hback := @txt_back l hwf t
    rw [ht] at hT0 htl hback
    simp only at hT0 htl
    clear ht
    have c0 := hR1.c0
    go_wp2_with fail
    refine (hT0 _ _ hR1.rs).mono ?_
    rintro e w2 ⟨rfl, hb2⟩
    have hR2 := hR1.step hb2
    clear hR1 c0 hb2 hT0
    by_cases he : te = 0
    · subst he
      have hA0 := fun W => recall_any t W (by unfold maxLen; omega)
      simp only [AllPost, hback rfl] at hA0
      clear hback
      go_wp2_with (first | (go_at_call 10; refine (num_any _ _).mono ?_; rintro e w2 ⟨rfl, rfl⟩) | fail)
      refine (hA0 _).mono ?_
      rintro e w3 ⟨va, rfl, hoa, hb3⟩
      have hR3 := hR2.step hb3
      have c0 := hR3.c0
      clear hR2 hb3 hA0
      go_wp2_with (first | (go_at_call 10; refine (num_any _ _).mono ?_; rintro e w3 ⟨rfl, rfl⟩) | (go_at_call 19; refine (eqrecs_any _ _ l _ (RS.own hoa) hR3.rs (by omega)).mono ?_; rintro e w4 ⟨rfl, hD⟩))
      have hbelT := bel_next hR3.bel (hD.below _)
      clear hR3 hD hoa c0
      go_loopw [7, 8] (fun m i W => ∃ k : Nat, k ≤ 65 ∧ i = .int .i64 k ∧ OwnR W w.heap.size m (mk k) ∧ Below w.heap.size w W) (fun _ i _ => 65 - (intOf i).toNat)
      case atStart => exact ⟨0, by omega, rfl, World.ownsRow_nil _ _ _ _, hbelT⟩
      case round =>
        rename World => w5
        clear hbelT
        obtain ⟨k, hk, rfl, hown, hbel⟩ := hrel
        have hT := fun v W hW => text4_any v (mk k) W hW (mk_wf k hk) (by rw [mk_len]; unfold maxLen; omega)
        by_cases hlt : k < 65
        · have hd : decide ((k : Int) ≤ 64) = true := decide_eq_true (by omega)
          have hA := fun W => recall_any (cat (mk k)) W (by have := mk_size k (by omega); unfold maxLen; omega)
          simp only [TextPost, mk_txt k (by omega)] at hT
          simp only [AllPost, mk_all k (by omega)] at hA
          generalize cat (mk k) = sk at hT hA
          go_wp2_with fail
          refine (hT _ _ (RS.own hown)).mono ?_
          rintro e w6 ⟨rfl, hb6⟩
          have hbel6 := bel_next hbel hb6
          have hown6 := hown.below hb6
          clear hbel hown hb6
          go_wp2_with fail
          refine (hA _).mono ?_
          rintro e w7 ⟨vy, rfl, hoy, hb7⟩
          have hbel7 := bel_next hbel6 hb7
          have hown7 := hown6.below hb7
          have hsz := hbel7.size
          obtain ⟨ya, ycap, rfl⟩ := hoy.shape
          have hlk := mk_len k
          have hlk' : ((mk k).length : Int) = (k : Int) := by omega
          clear hbel6 hown6 hb7 hoy
          rw [hlk]
          go_wp2_with (first | (go_at_call 10; refine (num_any _ _).mono ?_; rintro e w7 ⟨rfl, rfl⟩) | (at_builtin; refine wpList_append_own _ rfl _ _ 22 rfl w.heap.size 32 i0 _ 3 32 Try.underlying22 hi hz0 hz1 hz2 rfl (by decide) _ _ _ rfl (hown7.alloc _) ⟨w7.heap.size, 0, none⟩ 1 1 [.int .i64 0, .string ⟨#[]⟩, .int .i64 k] rfl rfl (cell_rec_new _ _ _ _ _) (rec_cells _ _ _) ?c3 ?c4 ?c5 ?_))
          case c3 => rw [hlk]; unfold maxLen; omega
          case c4 => omega
          case c5 => first | omega | (simp; omega)
          intro v2 w8 hown8 hgrow8 _
          have hbel8 : Below w.heap.size w w8 := (hbel7.alloc hsz _).grown hgrow8 (by simp; omega) (own_row hown7)
          have hown9 : OwnR w8 w.heap.size v2 (mk (k + 1)) := by rw [mk_succ]; exact OwnR.snoc (x := ((0, ⟨#[]⟩), (k : Int))) hown8 hlk.symm
          clear hown8 hgrow8 hown7 hbel7
          go_wp2
          go_roundw
          case rel => exact ⟨k + 1, by omega, by go_num, hown9, hbel8⟩
          case measure => simp [intOf]; omega
        · have hd : decide ((k : Int) ≤ 64) = false := decide_eq_false (by omega)
          obtain rfl : k = 65 := by omega
          simp only [TextPost, mk_over] at hT
          go_wp2_with (first | (go_at_call 14; refine (hT _ _ (RS.own hown)).mono ?_; rintro e w6 ⟨rfl, hb6⟩) | (go_at_call 10; refine (num_any _ _).mono ?_; rintro e w6 ⟨rfl, rfl⟩) | (go_at_call 13; refine (wakes_any _).mono ?_; rintro e w' ⟨rfl, hw⟩))
          go_ret
          exact ⟨rfl, bel_next (bel_next hbel hb6) hw⟩
    · have hbelT := hR2.bel
      have hde : (te == 0) = false := by simpa using he
      clear hback hR2
      go_wp2_with (go_at_call 10; refine (num_any _ _).mono ?_; rintro e w2 ⟨rfl, rfl⟩)
      go_loopw [7, 8] (fun m i W => ∃ k : Nat, k ≤ 65 ∧ i = .int .i64 k ∧ OwnR W w.heap.size m (mk k) ∧ Below w.heap.size w W) (fun _ i _ => 65 - (intOf i).toNat)
      case atStart => exact ⟨0, by omega, rfl, World.ownsRow_nil _ _ _ _, hbelT⟩
      case round =>
        rename World => w5
        clear hbelT
        obtain ⟨k, hk, rfl, hown, hbel⟩ := hrel
        have hT := fun v W hW => text4_any v (mk k) W hW (mk_wf k hk) (by rw [mk_len]; unfold maxLen; omega)
        by_cases hlt : k < 65
        · have hd : decide ((k : Int) ≤ 64) = true := decide_eq_true (by omega)
          have hA := fun W => recall_any (cat (mk k)) W (by have := mk_size k (by omega); unfold maxLen; omega)
          simp only [TextPost, mk_txt k (by omega)] at hT
          simp only [AllPost, mk_all k (by omega)] at hA
          generalize cat (mk k) = sk at hT hA
          go_wp2_with fail
          refine (hT _ _ (RS.own hown)).mono ?_
          rintro e w6 ⟨rfl, hb6⟩
          have hbel6 := bel_next hbel hb6
          have hown6 := hown.below hb6
          clear hbel hown hb6
          go_wp2_with fail
          refine (hA _).mono ?_
          rintro e w7 ⟨vy, rfl, hoy, hb7⟩
          have hbel7 := bel_next hbel6 hb7
          have hown7 := hown6.below hb7
          have hsz := hbel7.size
          obtain ⟨ya, ycap, rfl⟩ := hoy.shape
          have hlk := mk_len k
          have hlk' : ((mk k).length : Int) = (k : Int) := by omega
          clear hbel6 hown6 hb7 hoy
          rw [hlk]
          go_wp2_with (first | (go_at_call 10; refine (num_any _ _).mono ?_; rintro e w7 ⟨rfl, rfl⟩) | (at_builtin; refine wpList_append_own _ rfl _ _ 22 rfl w.heap.size 32 i0 _ 3 32 Try.underlying22 hi hz0 hz1 hz2 rfl (by decide) _ _ _ rfl (hown7.alloc _) ⟨w7.heap.size, 0, none⟩ 1 1 [.int .i64 0, .string ⟨#[]⟩, .int .i64 k] rfl rfl (cell_rec_new _ _ _ _ _) (rec_cells _ _ _) ?c3 ?c4 ?c5 ?_))
          case c3 => rw [hlk]; unfold maxLen; omega
          case c4 => omega
          case c5 => first | omega | (simp; omega)
          intro v2 w8 hown8 hgrow8 _
          have hbel8 : Below w.heap.size w w8 := (hbel7.alloc hsz _).grown hgrow8 (by simp; omega) (own_row hown7)
          have hown9 : OwnR w8 w.heap.size v2 (mk (k + 1)) := by rw [mk_succ]; exact OwnR.snoc (x := ((0, ⟨#[]⟩), (k : Int))) hown8 hlk.symm
          clear hown8 hgrow8 hown7 hbel7
          go_wp2
          go_roundw
          case rel => exact ⟨k + 1, by omega, by go_num, hown9, hbel8⟩
          case measure => simp [intOf]; omega
        · have hd : decide ((k : Int) ≤ 64) = false := decide_eq_false (by omega)
          obtain rfl : k = 65 := by omega
          simp only [TextPost, mk_over] at hT
          go_wp2_with (first | (go_at_call 14; refine (hT _ _ (RS.own hown)).mono ?_; rintro e w6 ⟨rfl, hb6⟩) | (go_at_call 10; refine (num_any _ _).mono ?_; rintro e w6 ⟨rfl, rfl⟩) | (go_at_call 13; refine (wakes_any _).mono ?_; rintro e w' ⟨rfl, hw⟩))
          go_ret
          exact ⟨rfl, bel_next (bel_next hbel hb6) hw⟩
  · go_wp2
    go_ret
    exact ⟨rfl, hR1.bel⟩
end Go.Proofs.Ytmdkkagngiahcaa
