/- Contracts: frame.Scan, and the page's own. -/
import Derived.Test.YtllcpdpjfcjopaaDoorFFn
import Derived.Test.YtllcpdpjfcjopaaDoorSRow
namespace Go.Proofs.YtllcpdpjfcjopaaDoor
open Go.RowKit
set_option linter.unusedVariables false

/-- What Scan leaves. -/
def ScanPost (s : ByteArray) (w : World) (e : Ending) (w' : World) : Prop := ∃ v', e = .returned (.tuple #[v', .int .i64 ((scanOf s).2 : Int)]) ∧ OwnS w' w.heap.size v' (scanOf s).1 ∧ Below w.heap.size w w'
theorem Tryd.info9 : (Tryd.prog.info? 9).map (fun i => (i.zero, i.size, i.bytes)) = some (some (.string ⟨#[]⟩), 1, 16) := by kernel_rfl
theorem str_cell (x : ByteArray) : ∀ u ∈ [Value.string x], u.oneCell' = true := by
  intro u hu
  simp only [List.mem_singleton] at hu
  subst hu; rfl

set_option maxRecDepth 100000 in
set_option maxHeartbeats 800000 in
theorem scan_any (s : ByteArray) (w : World) (hs : s.size ≤ 100000) (h : Halves w) : Calls Tryd.prog 11 #[.string s] w fun e w' => ScanPost s w e w' := by
  obtain ⟨i0, hi, hz0, hz1, hz2⟩ := info_parts Tryd.info9
  unfold ScanPost scanOf
  go_enter Tryd.func11, Tryd.ntmps11
  go_wp2
  go_loopw [2, 3] (fun l' n' wr => ∃ (a f : Nat) (acc : List ByteArray), n' = .int .i64 a ∧ a ≤ s.size ∧ acc.length * 8 ≤ a ∧ s.size - a < f ∧ Hid (scanG f acc a s = scanG (s.size + 1) [] 0 s) ∧ OwnS wr w.heap.size l' acc ∧ Below w.heap.size w wr) (fun _ n' _ => s.size - (intOf n').toNat)
  case atStart => exact ⟨0, s.size + 1, [], rfl, by omega, by simp, by omega, rfl, World.ownsRow_nil _ _ _ _, Below.refl _ _⟩
  case round =>
    obtain ⟨a, f, acc, rfl, ha, hacc, hf, HA, hown, hbel⟩ := hrel
    obtain ⟨ad, cap, rfl⟩ := hown.shape
    have hhr := h.below hbel h.pos
    have hT := fun W (hW : Halves W) => ftake_any (s.extract a s.size) W (by rw [ByteArray.size_extract]; omega) hW
    obtain ⟨f, rfl⟩ : ∃ g, f = g + 1 := ⟨f - 1, by omega⟩
    obtain ⟨t, j, e, hr⟩ : ∃ t j e, fTake (s.extract a s.size) = (t, j, e) := ⟨_, _, _, rfl⟩
    have hq := @fq (s.extract a s.size) t j
    simp only [TakePost, hr] at hT hq
    have ha' : (a : Int) ≤ s.size := by omega
    go_wp2_with fail
    refine (hT _ hhr).mono ?_
    rintro e' w1 ⟨rfl, hb1⟩
    have hbel1 := bel_next hbel hb1
    have hown1 := hown.below hb1
    clear hT hbel hb1 hown hhr
    by_cases he : e = 0
    · subst he
      obtain ⟨q, rfl, hq8, hqs, hts⟩ := hq rfl
      rw [ByteArray.size_extract] at hqs
      have HA' : Hid (scanG f (acc ++ [t]) (a + q) s = scanG (s.size + 1) [] 0 s) := by
        have e := HA.out
        rw [scanG_more f acc a s t q hr] at e
        exact e
      have hsz := hbel1.size
      clear hq hr HA
      go_wp2_with (at_builtin; refine wpList_append_own _ rfl _ _ 22 rfl w.heap.size 9 i0 _ 1 16 Tryd.underlying22 hi hz0 hz1 hz2 rfl (by decide) _ _ _ rfl (hown1.alloc _) ⟨w1.heap.size, 0, none⟩ 1 1 [.string t] rfl rfl (cell_one_new _ _ _) (str_cell _) ?c3 ?c4 ?c5 ?_)
      case c3 => unfold maxLen; omega
      case c4 => omega
      case c5 => first | omega | (simp; omega)
      intro v2 w2 hown2 hgrow2 _
      have hbel2 : Below w.heap.size w w2 := (hbel1.alloc hsz _).grown hgrow2 (by simp; omega) (own_rowS hown1)
      have hown3 : OwnS w2 w.heap.size v2 (acc ++ [t]) := OwnS.snoc (x := t) hown2 rfl
      clear hown2 hgrow2 hown1 hbel1
      go_wp2
      go_roundw
      case rel => exact ⟨a + q, f, _, by go_num, by omega, by simp; omega, by omega, HA', hown3, hbel2⟩
      case measure => simp [intOf]; omega
    · have hA := HA.out
      rw [scanG_end f acc a s t j e hr he] at hA
      have hd : (e == 0) = false := by simpa using he
      clear hq hr HA
      go_wp2
      go_ret2
      rw [← hA]
      exact ⟨_, rfl, hown1, hbel1⟩

set_option maxRecDepth 100000 in
set_option maxHeartbeats 800000 in
theorem rscan_any (s : ByteArray) (w : World) (hs : s.size ≤ 100000) : Calls Tryd.prog 12 #[.string s] w fun e w' => ScanPost s w e w' := by
  obtain ⟨i0, hi, hz0, hz1, hz2⟩ := info_parts Tryd.info9
  unfold ScanPost scanOf
  go_enter Tryd.func12, Tryd.ntmps12
  go_wp2
  go_loopw [4, 5] (fun l' n' wr => ∃ (a f : Nat) (acc : List ByteArray), n' = .int .i64 a ∧ a ≤ s.size ∧ acc.length * 8 ≤ a ∧ s.size - a < f ∧ Hid (scanG f acc a s = scanG (s.size + 1) [] 0 s) ∧ OwnS wr w.heap.size l' acc ∧ Below w.heap.size w wr) (fun _ n' _ => s.size - (intOf n').toNat)
  case atStart => exact ⟨0, s.size + 1, [], rfl, by omega, by simp, by omega, rfl, World.ownsRow_nil _ _ _ _, Below.refl _ _⟩
  case round =>
    obtain ⟨a, f, acc, rfl, ha, hacc, hf, HA, hown, hbel⟩ := hrel
    obtain ⟨ad, cap, rfl⟩ := hown.shape
    have hT := fun W => rftake_any (s.extract a s.size) W (by rw [ByteArray.size_extract]; omega)
    obtain ⟨f, rfl⟩ : ∃ g, f = g + 1 := ⟨f - 1, by omega⟩
    obtain ⟨t, j, e, hr⟩ : ∃ t j e, fTake (s.extract a s.size) = (t, j, e) := ⟨_, _, _, rfl⟩
    have hq := @fq (s.extract a s.size) t j
    simp only [TakePost, hr] at hT hq
    have ha' : (a : Int) ≤ s.size := by omega
    go_wp2_with fail
    refine (hT _).mono ?_
    rintro e' w1 ⟨rfl, hb1⟩
    have hbel1 := bel_next hbel hb1
    have hown1 := hown.below hb1
    clear hT hbel hb1 hown
    by_cases he : e = 0
    · subst he
      obtain ⟨q, rfl, hq8, hqs, hts⟩ := hq rfl
      rw [ByteArray.size_extract] at hqs
      have HA' : Hid (scanG f (acc ++ [t]) (a + q) s = scanG (s.size + 1) [] 0 s) := by
        have e := HA.out
        rw [scanG_more f acc a s t q hr] at e
        exact e
      have hsz := hbel1.size
      clear hq hr HA
      go_wp2_with (at_builtin; refine wpList_append_own _ rfl _ _ 22 rfl w.heap.size 9 i0 _ 1 16 Tryd.underlying22 hi hz0 hz1 hz2 rfl (by decide) _ _ _ rfl (hown1.alloc _) ⟨w1.heap.size, 0, none⟩ 1 1 [.string t] rfl rfl (cell_one_new _ _ _) (str_cell _) ?c3 ?c4 ?c5 ?_)
      case c3 => unfold maxLen; omega
      case c4 => omega
      case c5 => first | omega | (simp; omega)
      intro v2 w2 hown2 hgrow2 _
      have hbel2 : Below w.heap.size w w2 := (hbel1.alloc hsz _).grown hgrow2 (by simp; omega) (own_rowS hown1)
      have hown3 : OwnS w2 w.heap.size v2 (acc ++ [t]) := OwnS.snoc (x := t) hown2 rfl
      clear hown2 hgrow2 hown1 hbel1
      go_wp2
      go_roundw
      case rel => exact ⟨a + q, f, _, by go_num, by omega, by simp; omega, by omega, HA', hown3, hbel2⟩
      case measure => simp [intOf]; omega
    · have hA := HA.out
      rw [scanG_end f acc a s t j e hr he] at hA
      have hd : (e == 0) = false := by simpa using he
      clear hq hr HA
      go_wp2
      go_ret2
      rw [← hA]
      exact ⟨_, rfl, hown1, hbel1⟩
end Go.Proofs.YtllcpdpjfcjopaaDoor
