/- Contracts: rec.All, and the page's own. -/
import Derived.Test.YtdejdcibcihfeaaB24
namespace Go.Proofs.Ytdejdcibcihfeaa
open Go.RowKit
set_option linter.unusedVariables false
set_option maxRecDepth 100000

/-- What All leaves. -/
def AllPost (s : ByteArray) (w : World) (e : Ending) (w' : World) : Prop := ∃ v', e = .returned (.tuple #[v', .int .i64 (allOf s).2]) ∧ OwnR w' w.heap.size v' (allOf s).1 ∧ Below w.heap.size w w'
def lenV : Value → Nat
  | .slice _ n _ => n
  | _ => 0
theorem OwnR.shape {w : World} {base : Nat} {v : Value} {l : List Rc} (h : OwnR w base v l) : ∃ a cap, v = .slice a l.length cap := by
  obtain ⟨a, cap, h, _⟩ := RS.own h
  exact ⟨a, cap, h⟩

theorem cell_rec_at {w : World} {k : Nat} (hk : k = w.heap.size) (a : Int) (b : ByteArray) (v : Int) (T : TypeId) : ∀ j u, [Value.int .i64 a, .string b, .int .i64 v][j]? = some u → (w.alloc (.cells #[.int .i64 a, .string b, .int .i64 v] T)).cell? ((⟨k, 0, none⟩ : Addr).add j) = some u := by
  subst hk; exact cell_rec_new w a b v T

set_option maxRecDepth 100000 in
set_option maxHeartbeats 800000 in
theorem recall_any (s : ByteArray) (w : World) (hs : s.size ≤ maxLen) : Calls Try.prog 29 #[.string s] w fun e w' => AllPost s w e w' := by
  obtain ⟨i0, hi, hz0, hz1, hz2⟩ := info_parts Try.infoRec
  unfold AllPost allOf
  by_cases hbig : 8192 < s.size
  · have hd : decide (8192 < (s.size : Int)) = true := by simp; omega
    simp only [hbig, if_true]
    go_enter Try.func29, Try.ntmps29
    go_wp2
    go_ret2
    exact ⟨_, rfl, World.ownsRow_nil _ _ _ _, Below.refl _ _⟩
  · have hd : decide (8192 < (s.size : Int)) = false := by simp; omega
    simp only [hbig, if_false]
    go_enter Try.func29, Try.ntmps29
    go_wp2
    go_loopw [0, 4] (fun s' l' wr => ∃ (t : ByteArray) (acc : List Rc), s' = .string t ∧ acc.length ≤ 64 ∧ t.size ≤ 8192 ∧ Hid (allG (64 - acc.length) acc t = allG 64 [] s) ∧ OwnR wr w.heap.size l' acc ∧ Below w.heap.size w wr) (fun _ l' _ => 64 - lenV l')
    case atStart => exact ⟨s, [], rfl, by simp, by omega, rfl, World.ownsRow_nil _ _ _ _, Below.refl _ _⟩
    case round =>
      obtain ⟨t, acc, rfl, hacc, ht, HA, hown, hbel⟩ := hrel
      obtain ⟨a, cap, rfl⟩ := hown.shape
      by_cases h0 : t.size = 0
      · have hd0 : decide (0 < (t.size : Int)) = false := decide_eq_false (by omega)
        have e := HA.out
        rw [allG_nil _ _ _ h0] at e
        go_wp2
        go_ret2
        rw [← e]
        exact ⟨_, rfl, hown, hbel⟩
      · have hd0 : decide (0 < (t.size : Int)) = true := decide_eq_true (by omega)
        by_cases h64 : acc.length = 64
        · have e := HA.out
          rw [h64, Nat.sub_self, allG_over _ _ h0] at e
          go_wp2
          go_ret2
          rw [← e]
          exact ⟨_, rfl, World.ownsRow_nil _ _ _ _, hbel⟩
        · have hT := fun W => rectake_any t W (by unfold maxLen; omega)
          obtain ⟨m, hm⟩ : ∃ m, 64 - acc.length = m + 1 := ⟨63 - acc.length, by omega⟩
          rw [hm] at HA
          obtain ⟨⟨⟨ra, rb⟩, rv⟩, j, e, hr⟩ : ∃ r j e, rTake t = (r, j, e) := ⟨_, _, _, rfl⟩
          have hq := @rq t ((ra, rb), rv) j
          simp only [hr] at hT hq
          have hd1 : decide ((acc.length : Int) = 64) = false := by simp; omega
          go_wp2_with fail
          refine (hT _).mono ?_
          rintro e' w1 ⟨rfl, hb1⟩
          have hbel1 := bel_next (bel_next hbel hb1) (bel_new w1 (.cells #[.int .i64 ra, .string rb, .int .i64 rv] 62))
          have hown1 := (hown.below hb1).below (bel_new w1 (.cells #[.int .i64 ra, .string rb, .int .i64 rv] 62))
          obtain ⟨_, c0, c1, c2⟩ := BoxR.new w1 ra rb rv 62
          clear hT hbel hb1 hown
          by_cases he : e = 0
          · subst he
            obtain ⟨q, rfl, hq1, hq2⟩ := hq rfl
            have HA' : Hid (allG m (acc ++ [((ra, rb), rv)]) (t.extract q t.size) = allG 64 [] s) := by
              have e := HA.out
              rw [allG_more m acc t h0 _ q hr] at e
              exact e
            have hsz := hbel1.size
            have hsz' : w.heap.size ≤ w1.heap.size + 1 := by simpa using hsz
            go_wp2_with (at_builtin; refine wpList_append_own _ rfl _ _ 44 rfl w.heap.size 62 i0 _ 3 32 Try.underlying44 hi hz0 hz1 hz2 rfl (by decide) _ _ _ rfl (hown1.alloc _) ⟨w1.heap.size + 1, 0, none⟩ 1 1 [.int .i64 ra, .string rb, .int .i64 rv] rfl rfl (cell_rec_at (by simp) _ _ _ _) (rec_cells _ _ _) ?c3 ?c4 ?c5 ?_)
            case c3 => unfold maxLen; omega
            case c4 => omega
            case c5 => first | omega | (simp; omega)
            intro v2 w2 hown2 hgrow2 _
            have hbel2 : Below w.heap.size w w2 := (hbel1.alloc hsz _).grown hgrow2 (by simp; omega) (own_row hown1)
            have hown3 : OwnR w2 w.heap.size v2 (acc ++ [((ra, rb), rv)]) := OwnR.snoc (x := ((ra, rb), rv)) hown2 rfl
            clear hown2 hgrow2 hown1 hbel1 c0 c1 c2
            obtain ⟨a2, cap2, rfl⟩ := hown3.shape
            go_wp2
            go_roundw
            case rel => exact ⟨_, _, rfl, by simp; omega, by rw [ByteArray.size_extract]; omega, by rw [List.length_append, List.length_singleton, show 64 - (acc.length + 1) = m by omega]; exact HA', hown3, hbel2⟩
            case measure => simp [lenV]; omega
          · have hA := HA.out
            rw [allG_bad m acc t h0 _ j e hr he] at hA
            go_wp2
            go_ret2
            rw [← hA]
            exact ⟨_, rfl, World.ownsRow_nil _ _ _ _, hbel1⟩

set_option maxRecDepth 100000 in
set_option maxHeartbeats 800000 in
/-- The page's own All. -/
theorem rall_any (s : ByteArray) (w : World) (hs : s.size ≤ maxLen) : Calls Try.prog 21 #[.string s] w fun e w' => AllPost s w e w' := by
  obtain ⟨i0, hi, hz0, hz1, hz2⟩ := info_parts Try.infoRec
  unfold AllPost allOf
  by_cases hbig : 8192 < s.size
  · have hd : decide (8192 < (s.size : Int)) = true := by simp; omega
    simp only [hbig, if_true]
    go_enter Try.func21, Try.ntmps21
    go_wp2
    go_ret2
    exact ⟨_, rfl, World.ownsRow_nil _ _ _ _, Below.refl _ _⟩
  · have hd : decide (8192 < (s.size : Int)) = false := by simp; omega
    simp only [hbig, if_false]
    go_enter Try.func21, Try.ntmps21
    go_wp2
    go_loopw [0, 4] (fun s' l' wr => ∃ (t : ByteArray) (acc : List Rc), s' = .string t ∧ acc.length ≤ 64 ∧ t.size ≤ 8192 ∧ Hid (allG (64 - acc.length) acc t = allG 64 [] s) ∧ OwnR wr w.heap.size l' acc ∧ Below w.heap.size w wr) (fun _ l' _ => 64 - lenV l')
    case atStart => exact ⟨s, [], rfl, by simp, by omega, rfl, World.ownsRow_nil _ _ _ _, Below.refl _ _⟩
    case round =>
      obtain ⟨t, acc, rfl, hacc, ht, HA, hown, hbel⟩ := hrel
      obtain ⟨a, cap, rfl⟩ := hown.shape
      by_cases h0 : t.size = 0
      · have hd0 : decide (0 < (t.size : Int)) = false := decide_eq_false (by omega)
        have e := HA.out
        rw [allG_nil _ _ _ h0] at e
        go_wp2
        go_ret2
        rw [← e]
        exact ⟨_, rfl, hown, hbel⟩
      · have hd0 : decide (0 < (t.size : Int)) = true := decide_eq_true (by omega)
        by_cases h64 : acc.length = 64
        · have e := HA.out
          rw [h64, Nat.sub_self, allG_over _ _ h0] at e
          go_wp2
          go_ret2
          rw [← e]
          exact ⟨_, rfl, World.ownsRow_nil _ _ _ _, hbel⟩
        · have hT := fun W => rtakerec_any t W (by unfold maxLen; omega)
          obtain ⟨m, hm⟩ : ∃ m, 64 - acc.length = m + 1 := ⟨63 - acc.length, by omega⟩
          rw [hm] at HA
          obtain ⟨⟨⟨ra, rb⟩, rv⟩, j, e, hr⟩ : ∃ r j e, rTake t = (r, j, e) := ⟨_, _, _, rfl⟩
          have hq := @rq t ((ra, rb), rv) j
          simp only [hr] at hT hq
          have hd1 : decide ((acc.length : Int) = 64) = false := by simp; omega
          go_wp2_with fail
          refine (hT _).mono ?_
          rintro e' w1 ⟨rfl, hb1⟩
          have hbel1 := bel_next (bel_next hbel hb1) (bel_new w1 (.cells #[.int .i64 ra, .string rb, .int .i64 rv] 62))
          have hown1 := (hown.below hb1).below (bel_new w1 (.cells #[.int .i64 ra, .string rb, .int .i64 rv] 62))
          obtain ⟨_, c0, c1, c2⟩ := BoxR.new w1 ra rb rv 62
          clear hT hbel hb1 hown
          by_cases he : e = 0
          · subst he
            obtain ⟨q, rfl, hq1, hq2⟩ := hq rfl
            have HA' : Hid (allG m (acc ++ [((ra, rb), rv)]) (t.extract q t.size) = allG 64 [] s) := by
              have e := HA.out
              rw [allG_more m acc t h0 _ q hr] at e
              exact e
            have hsz := hbel1.size
            have hsz' : w.heap.size ≤ w1.heap.size + 1 := by simpa using hsz
            go_wp2_with (at_builtin; refine wpList_append_own _ rfl _ _ 44 rfl w.heap.size 62 i0 _ 3 32 Try.underlying44 hi hz0 hz1 hz2 rfl (by decide) _ _ _ rfl (hown1.alloc _) ⟨w1.heap.size + 1, 0, none⟩ 1 1 [.int .i64 ra, .string rb, .int .i64 rv] rfl rfl (cell_rec_at (by simp) _ _ _ _) (rec_cells _ _ _) ?c3 ?c4 ?c5 ?_)
            case c3 => unfold maxLen; omega
            case c4 => omega
            case c5 => first | omega | (simp; omega)
            intro v2 w2 hown2 hgrow2 _
            have hbel2 : Below w.heap.size w w2 := (hbel1.alloc hsz _).grown hgrow2 (by simp; omega) (own_row hown1)
            have hown3 : OwnR w2 w.heap.size v2 (acc ++ [((ra, rb), rv)]) := OwnR.snoc (x := ((ra, rb), rv)) hown2 rfl
            clear hown2 hgrow2 hown1 hbel1 c0 c1 c2
            obtain ⟨a2, cap2, rfl⟩ := hown3.shape
            go_wp2
            go_roundw
            case rel => exact ⟨_, _, rfl, by simp; omega, by rw [ByteArray.size_extract]; omega, by rw [List.length_append, List.length_singleton, show 64 - (acc.length + 1) = m by omega]; exact HA', hown3, hbel2⟩
            case measure => simp [lenV]; omega
          · have hA := HA.out
            rw [allG_bad m acc t h0 _ j e hr he] at hA
            go_wp2
            go_ret2
            rw [← hA]
            exact ⟨_, rfl, World.ownsRow_nil _ _ _ _, hbel1⟩
end Go.Proofs.Ytdejdcibcihfeaa
