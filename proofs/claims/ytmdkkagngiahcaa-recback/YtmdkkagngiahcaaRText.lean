/- Contracts: rec.Text, and the page's own. -/
import Derived.Test.YtmdkkagngiahcaaRLst
import Derived.Test.YtmdkkagngiahcaaRBld
namespace Go.Proofs.Ytmdkkagngiahcaa
open Go.RowKit
set_option linter.unusedVariables false

/-- What Text leaves. -/
def TextPost (l : List Rc) (w : World) (e : Ending) (w' : World) : Prop := e = .returned (.tuple #[.string (txtOf l).1, .int .i64 (txtOf l).2]) ∧ Below w.heap.size w w'
theorem good_take {l : List Rc} {k : Nat} {y : Rc} (h : Good (l.take k)) (hy : l[k]? = some y) (ht : y.1.2.size ≤ 64) : Good (l.take (k + 1)) := by
  have e : l.take (k + 1) = l.take k ++ [y] := by rw [List.take_add_one, hy]; rfl
  rw [e]; exact h.snoc ht
theorem cat_take {l : List Rc} {k : Nat} {y : Rc} (hy : l[k]? = some y) : cat (l.take (k + 1)) = cat (l.take k) ++ rBytes y := by
  have e : l.take (k + 1) = l.take k ++ [y] := by rw [List.take_add_one, hy]; rfl
  rw [e, cat_snoc]
theorem cat_take_len {l : List Rc} {k : Nat} (h : Good (l.take k)) (hk : k ≤ 64) : (cat (l.take k)).size ≤ 6016 := by
  have h1 := cat_len _ h
  have h2 : (l.take k).length ≤ k := by simp; omega
  have h3 : 94 * (l.take k).length ≤ 94 * 64 := Nat.mul_le_mul_left _ (by omega)
  omega
theorem txt_bad {l : List Rc} {k : Nat} {y : Rc} (hl : l.length ≤ 64) (hy : l[k]? = some y) (ht : ¬ y.1.2.size ≤ 64) : txtOf l = (⟨#[]⟩, 1) := by
  unfold txtOf
  rw [if_neg (by omega), if_neg (fun h => ht (h y (List.mem_of_getElem? hy)))]
theorem txt_good {l : List Rc} {k : Nat} (hl : l.length ≤ 64) (hk : l.length ≤ k) (h : Good (l.take k)) : txtOf l = (cat (l.take k), 0) := by
  rw [List.take_of_length_le hk] at h ⊢
  unfold txtOf
  rw [if_neg (by omega), if_pos h]
theorem txt_many {l : List Rc} (hl : 64 < l.length) : txtOf l = (⟨#[]⟩, 2) := by
  unfold txtOf; rw [if_pos hl]

set_option maxRecDepth 100000 in
set_option maxHeartbeats 800000 in
theorem text4_any (v : Value) (l : List Rc) (w : World) (h : RS w v l) (hwf : Wf l) (hl : l.length ≤ maxLen) : Calls Try.prog 14 #[v] w fun e w' => TextPost l w e w' := by
  obtain ⟨a, cap, rfl, h⟩ := h
  unfold TextPost
  unfold maxLen at hl
  by_cases hbig : 64 < l.length
  · have hd : decide (64 < (l.length : Int)) = true := decide_eq_true (by omega)
    rw [txt_many hbig]
    go_enter Try.func14, Try.ntmps14
    go_wp2
    go_ret2
    exact ⟨rfl, Below.refl _ _⟩
  · have hd : decide (64 < (l.length : Int)) = false := decide_eq_false (by omega)
    have hB0 := Bld.new w
    have hw0 : Below w.heap.size w (w.alloc (.cells #[.pointer none, .slice none 0 0] 67)) := bel_new w _
    rcases h with rfl | ⟨b, off, rfl, hb, hat⟩
    · have e0 : txtOf [] = (⟨#[]⟩, 0) := rfl
      rw [e0]
      go_enter Try.func14, Try.ntmps14
      go_wp2
      go_loopw [14] (fun i wr => i = .int .i64 0 ∧ Bld w.heap.size w.heap.size ⟨#[]⟩ wr ∧ Below w.heap.size w wr) (fun _ _ => 0)
      case atStart => exact ⟨rfl, hB0, hw0⟩
      case round =>
        clear hB0 hw0
        obtain ⟨rfl, hB, hbel⟩ := hrel
        go_wp2_with (first | (go_at_call 31; refine (blen_any _ _ _ _ hB).mono ?_; rintro e w' ⟨rfl, rfl⟩) | (go_at_call 32; refine (bstring_any _ _ _ _ hB hbel.size).mono ?_; rintro e w' ⟨rfl, hb2⟩))
        go_ret2
        exact ⟨rfl, hbel.trans hb2⟩
    · go_enter Try.func14, Try.ntmps14
      go_wp2
      go_loopw [14] (fun i wr => ∃ k : Nat, k ≤ l.length ∧ i = .int .i64 k ∧ Good (l.take k) ∧ Bld w.heap.size w.heap.size (cat (l.take k)) wr ∧ Below w.heap.size w wr) (fun i _ => l.length - (intOf i).toNat)
      case atStart => exact ⟨0, by omega, rfl, fun x hx => by simp at hx, hB0, hw0⟩
      case round =>
        clear hB0 hw0
        obtain ⟨k, hk, rfl, hG, hB, hbel⟩ := hrel
        by_cases hlt : k < l.length
        · obtain ⟨y, hy⟩ := getSome hlt
          obtain ⟨c0, c1, c2⟩ := hat.below hbel hb k y hy
          have hwy := hwf y (List.mem_of_getElem? hy)
          have hlen := cat_take_len (k := k) hG (by omega)
          have hk0 : (0 : Int) ≤ k := by omega
          have hkl : (k : Int) < l.length := by omega
          have hcat := cat_take hy
          by_cases hok : y.1.2.size ≤ 64
          · have hby := fun W => recbytes_ok y W (hwy.ok hok)
            have hG' := good_take hG hy hok
            have hl94 := rBytes_len y hok
            obtain ⟨⟨ya, yb⟩, yv⟩ := y
            simp only at c0 c1 c2 hby
            generalize rBytes ((ya, yb), yv) = sb at hby hcat hl94
            have hB1 := hB.below (bel_new wr (.cells #[.int .i64 ya, .string yb, .int .i64 yv] 32))
            have hbel1 := bel_next hbel (bel_new wr (.cells #[.int .i64 ya, .string yb, .int .i64 yv] 32))
            obtain ⟨_, d0, d1, d2⟩ := BoxR.new wr ya yb yv 32
            clear hB hbel
            go_wp2_with fail
            refine (hby _).mono ?_
            rintro e w1 ⟨rfl, hb1⟩
            have hB2 := hB1.below hb1
            have hbel2 := bel_next hbel1 hb1
            have hz2 := hbel2.size
            clear hB1 hbel1 hb1 c0 c1 c2 d0 d1 d2
            go_wp2_with (go_at_call 30; refine (bwrite_any _ _ _ sb _ hB2 (by omega) hz2).mono ?_; rintro e w2 ⟨rfl, hB3, hb3⟩)
            have hbel3 := hbel2.trans hb3
            go_roundw
            case rel => exact ⟨k + 1, by omega, by go_num, hG', by rw [hcat]; exact hB3, hbel3⟩
            case measure => simp [intOf]; omega
          · have hby := fun W => recbytes_bad y W hok
            have hT := txt_bad (by omega) hy hok
            obtain ⟨⟨ya, yb⟩, yv⟩ := y
            simp only at c0 c1 c2 hby
            have hbel1 := bel_next hbel (bel_new wr (.cells #[.int .i64 ya, .string yb, .int .i64 yv] 32))
            obtain ⟨_, d0, d1, d2⟩ := BoxR.new wr ya yb yv 32
            clear hB hbel
            go_wp2_with fail
            refine (hby _).mono ?_
            rintro e w1 ⟨rfl, hb1⟩
            go_wp2
            go_ret2
            rw [hT]
            exact ⟨rfl, bel_next hbel1 hb1⟩
        · have hlt' : l.length ≤ k := by omega
          have hlen := cat_take_len (k := k) hG (by omega)
          have hT := txt_good (by omega) hlt' hG
          go_wp2_with (first | (go_at_call 31; refine (blen_any _ _ _ _ hB).mono ?_; rintro e w' ⟨rfl, rfl⟩) | (go_at_call 32; refine (bstring_any _ _ _ _ hB hbel.size).mono ?_; rintro e w' ⟨rfl, hb2⟩))
          go_ret2
          rw [hT]
          exact ⟨rfl, hbel.trans hb2⟩

set_option maxRecDepth 100000 in
set_option maxHeartbeats 800000 in
/-- The page's own Text. -/
theorem rtext_any (v : Value) (l : List Rc) (w : World) (h : RS w v l) (hwf : Wf l) (hl : l.length ≤ maxLen) : Calls Try.prog 16 #[v] w fun e w' => TextPost l w e w' := by
  obtain ⟨a, cap, rfl, h⟩ := h
  unfold TextPost
  unfold maxLen at hl
  by_cases hbig : 64 < l.length
  · have hd : decide (64 < (l.length : Int)) = true := decide_eq_true (by omega)
    rw [txt_many hbig]
    go_enter Try.func16, Try.ntmps16
    go_wp2
    go_ret2
    exact ⟨rfl, Below.refl _ _⟩
  · have hd : decide (64 < (l.length : Int)) = false := decide_eq_false (by omega)
    rcases h with rfl | ⟨b, off, rfl, hb, hat⟩
    · have e0 : txtOf [] = (⟨#[]⟩, 0) := rfl
      rw [e0]
      go_enter Try.func16, Try.ntmps16
      go_wp2
      go_loopw [4, 5] (fun s i wr => s = .string ⟨#[]⟩ ∧ i = .int .i64 0 ∧ wr = w) (fun _ _ _ => 0)
      case atStart => exact ⟨rfl, rfl, rfl⟩
      case round =>
        obtain ⟨rfl, rfl, rfl⟩ := hrel
        go_wp2
        go_ret2
        exact ⟨rfl, Below.refl _ _⟩
    · go_enter Try.func16, Try.ntmps16
      go_wp2
      go_loopw [4, 5] (fun s i wr => ∃ k : Nat, k ≤ l.length ∧ s = .string (cat (l.take k)) ∧ i = .int .i64 k ∧ Good (l.take k) ∧ Below w.heap.size w wr) (fun _ i _ => l.length - (intOf i).toNat)
      case atStart => exact ⟨0, by omega, rfl, rfl, fun x hx => by simp at hx, Below.refl _ _⟩
      case round =>
        obtain ⟨k, hk, rfl, rfl, hG, hbel⟩ := hrel
        have hk0 : (0 : Int) ≤ k := by omega
        by_cases hlt : k < l.length
        · obtain ⟨y, hy⟩ := getSome hlt
          obtain ⟨c0, c1, c2⟩ := hat.below hbel hb k y hy
          have hwy := hwf y (List.mem_of_getElem? hy)
          have hlen := cat_take_len (k := k) hG (by omega)
          have hkl : (k : Int) < l.length := by omega
          have hcat := cat_take hy
          have hkey := rkey_any y.1
          by_cases hok : y.1.2.size ≤ 64
          · have hby := fun W => rrec_any y W (hwy.ok hok)
            have hG' := good_take hG hy hok
            have hl94 := rBytes_len y hok
            have hat' := hat.below hbel hb k y hy
            have HY : Hid (l[k]? = some y) := hy
            clear hy
            obtain ⟨⟨ya, yb⟩, yv⟩ := y
            simp only [hok, decide_true] at c0 c1 c2 hby hkey
            generalize rBytes ((ya, yb), yv) = sb at hby hcat hl94
            generalize cat (l.take k) = sc at hcat hlen ⊢
            have hadd : ∀ W, (Op.stringOp .add sc sb).run Try.prog W = .ok (.string (sc ++ sb)) W := fun W => run_string_add_sum W _ _ (by omega)
            go_wp2_with fail
            refine (hkey _).mono ?_
            rintro e w1 ⟨rfl, hb1⟩
            have hbel1 := bel_next hbel hb1
            clear c0 c1 c2
            obtain ⟨c0, c1, c2⟩ := hat.below hbel1 hb k _ HY.out
            simp only at c0 c1 c2
            go_wp2_with fail
            refine (hby _).mono ?_
            rintro e w2 ⟨rfl, hb2⟩
            have hbel2 := bel_next hbel1 hb2
            clear c0 c1 c2
            go_wp2
            go_roundw
            case rel => exact ⟨k + 1, by omega, by rw [hcat], by go_num, hG', hbel2⟩
            case measure => simp [intOf]; omega
          · have hT := txt_bad (by omega) hy hok
            obtain ⟨⟨ya, yb⟩, yv⟩ := y
            simp only [hok, decide_false] at c0 c1 c2 hkey
            go_wp2_with fail
            refine (hkey _).mono ?_
            rintro e w1 ⟨rfl, hb1⟩
            go_wp2
            go_ret2
            rw [hT]
            exact ⟨rfl, bel_next hbel hb1⟩
        · have hlt' : l.length ≤ k := by omega
          have hlen := cat_take_len (k := k) hG (by omega)
          have hT := txt_good (by omega) hlt' hG
          go_wp2
          go_ret2
          rw [hT]
          exact ⟨rfl, hbel⟩
end Go.Proofs.Ytmdkkagngiahcaa
