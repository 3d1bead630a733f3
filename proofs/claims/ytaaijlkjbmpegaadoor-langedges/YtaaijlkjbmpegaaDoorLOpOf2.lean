/- opOf: which op a word is. -/
import Derived.Test.YtaaijlkjbmpegaaDoorLOpOf
import Derived.Deep.CutBlock
import Derived.Deep.DeepCutAuto
namespace Go.Proofs.YtaaijlkjbmpegaaDoor
open Go.RowKit Go.Shelf
set_option linter.unusedVariables false
set_option maxRecDepth 100000

theorem Tryd.size31 : (Tryd.prog.info? 93).map (·.size) = some tabV.size := by rw [tabV_size]; kernel_rfl
theorem run_tab (k : Nat) (h : k < 31) (W : World) : (Instr.index 93 (.agg tabV) (.int .i64 (k : Int))).run Tryd.prog W = .ok (.string (ba (tab.getD k []))) W := by
  have h1 := tabV_at k h
  have hn : (0 ≤ (k : Int) ∧ (k : Int) < 31) := by omega
  simp [Instr.index, run_underlying Tryd.underlying93, asIntOf, hn, h1, go_sem]
  omega
theorem seq_true {x s : ByteArray} (h : x = s) : (x.toList == s.toList) = true := by subst h; simp
theorem seq_false {x s : ByteArray} (h : x ≠ s) : (x.toList == s.toList) = false := by
  rw [ByteArray.toList_eq, ByteArray.toList_eq]
  simp
  intro hc
  exact h (ba_ext (by rw [hc]))
theorem lst_true {l : List UInt8} {s : ByteArray} (h : l = L s) : (l == s.toList) = true := by rw [ByteArray.toList_eq]; simpa using h
theorem lst_false {l : List UInt8} {s : ByteArray} (h : l ≠ L s) : (l == s.toList) = false := by rw [ByteArray.toList_eq]; simpa using h
/-- What opOf tells. -/
def OpR (o : Option (Int × Int)) (e : Ending) : Prop := match o with
  | some (k, n) => e = .returned (.tuple #[.agg #[.int .i64 k, .int .i64 n, .slice none 0 0], .bool true])
  | none => e = .returned (.tuple #[.agg #[.int .i64 0, .int .i64 0, .slice none 0 0], .bool false])
theorem kind_found {l : List UInt8} {k : Nat} (hk : k < 31) (h : tab.getD k [] = l) (hn : ∀ j, j < k → tab.getD j [] ≠ l) : kindOf l = some k := by
  unfold kindOf
  have hl : tab.length = 31 := rfl
  have hg : ∀ j (hj : j < tab.length), tab[j] = tab.getD j [] := fun j hj => by rw [List.getD_eq_getElem?_getD, List.getElem?_eq_getElem hj]; rfl
  refine List.findIdx?_eq_some_iff_getElem.2 ⟨by omega, by rw [hg]; simpa using h, fun j hj => ?_⟩
  rw [hg]
  simpa using hn j hj
theorem kind_none {l : List UInt8} (hn : ∀ j, j < 31 → tab.getD j [] ≠ l) : kindOf l = none := by
  unfold kindOf
  refine List.findIdx?_eq_none_iff.2 fun x hx => ?_
  obtain ⟨j, hj⟩ := List.getElem?_of_mem hx
  have hl : j < 31 := (List.getElem?_eq_some_iff.1 hj).1
  have := hn j hl
  rw [List.getD_eq_getElem?_getD, hj] at this
  simpa using this
theorem opR_kind {l : List UInt8} {k : Nat} (h : kindOf l = some k) : OpR (opW l) (.returned (.tuple #[.agg #[.int .i64 (k : Int), .int .i64 0, .slice none 0 0], .bool true])) := by
  unfold opW; rw [h]; rfl
theorem opR_num {l : List UInt8} {n : Int} (h : kindOf l = none) (hn : numOf l = some n) : OpR (opW l) (.returned (.tuple #[.agg #[.int .i64 1, .int .i64 n, .slice none 0 0], .bool true])) := by
  unfold opW; rw [h, hn]; rfl
theorem opR_none {l : List UInt8} (h : kindOf l = none) (hn : numOf l = none) : OpR (opW l) (.returned (.tuple #[.agg #[.int .i64 0, .int .i64 0, .slice none 0 0], .bool false])) := by
  unfold opW; rw [h, hn]; rfl
set_option maxHeartbeats 400000 in
theorem opOf_any (s : ByteArray) (w : World) (hs : s.size ≤ 512) (hne : L s ≠ []) (hE : Env w) :
    Calls Tryd.prog 42 #[.string s] w fun e w' => OpR (opW (L s)) e ∧ Below w.heap.size w w' := by
  have hE0 : Env (w.alloc (.cells #[.int .i64 0, .int .i64 0, .slice none 0 0] 60)) := hE.low ((Below.refl _ _).alloc (Nat.le_refl _) _)
  obtain ⟨tt, fr, hg⟩ := hE0.table
  have HG := hidO hg
  clear hg
  go_enter Tryd.func42, Tryd.ntmps42
  go_upto_region 1 with fail
  go_cut [8, 9] (fun s8 s9 wx => s8 = .agg tabV ∧ s9 = .int .i64 0 ∧ wx = w.alloc (.cells #[.int .i64 0, .int .i64 0, .slice none 0 0] 60))
  case first =>
    go_wp2_with (refine wpList_load_row rfl 93 (.global 0) rfl 0 rfl tt tabV fr _ HG.out Tryd.underlying93 rfl Tryd.size31 ?_)
    go_meet
    exact ⟨rfl, rfl, rfl⟩
  case rest =>
    obtain ⟨rfl, rfl, rfl⟩ := hcut
    have hB := BlkO.new w 0 0 (.slice none 0 0)
    have HB := hidO hB
    obtain ⟨c0, c1, c2⟩ := hB.cells
    obtain ⟨f0, f1, f2⟩ := hB.free
    clear hB HG
    go_wp2
    go_loop [9] (fun i => ∃ k : Nat, k ≤ 31 ∧ i = .int .i64 k ∧ Hid (∀ j, j < k → tab.getD j [] ≠ L s)) (fun i => 31 - (intOf i).toNat)
    case atStart => exact ⟨0, by omega, rfl, fun j hj => by omega⟩
    case round =>
      obtain ⟨k, hk, rfl, HK⟩ := hrel
      by_cases hlt : k < 31
      · have hi := run_tab k hlt
        have hk0 : (0 : Int) ≤ k := by omega
        have hk1 : (k : Int) < 31 := by omega
        generalize hx : ba (tab.getD k []) = x at hi
        have HX := hidO hx
        clear hx
        by_cases he : x = s
        · have hbe := seq_true he
          have HF := hidO (opR_kind (kind_found hlt (by have := HX.out; rw [he] at this; rw [← this, L_ba]) HK.out))
          clear he
          go_wp2
          have hB2 := BlkO.new w (k : Int) 0 (.slice none 0 0)
          exact bodyPost_ret (hB2.ret (t := 2) (u := 3) rfl rfl) rfl ⟨HF.out, (Below.refl _ _).alloc (Nat.le_refl _) _⟩
        · have hbe := seq_false he
          have HN : Hid (tab.getD k [] ≠ L s) := fun hc => he (by rw [← HX.out, hc, ba_L])
          clear he
          go_wp2
          go_round
          case rel => exact ⟨k + 1, by omega, by go_num, fun j hj => by
            by_cases hjk : j = k
            · subst hjk; exact HN.out
            · exact HK.out j (by omega)⟩
          case measure => simp [intOf]; omega
      · obtain rfl : k = 31 := by omega
        have hkn := kind_none HK.out
        have hb0 : Below w.heap.size w (w.alloc (.cells #[.int .i64 0, .int .i64 0, .slice none 0 0] 60)) := (Below.refl _ _).alloc (Nat.le_refl _) _
        by_cases hp : ∃ v, Lib.parseIntB 64 (L s) = .ok v
        · obtain ⟨v, hv⟩ := hp
          have hbd := Lib.parseIntB_bounds hv
          have hv0 : -9223372036854775808 ≤ v := by have := hbd.1; rw [show ((2 ^ (64 - 1) : Nat) : Int) = 9223372036854775808 from rfl] at this; omega
          have hv1 : v ≤ 9223372036854775807 := by have := hbd.2; rw [show ((2 ^ (64 - 1) : Nat) : Int) = 9223372036854775808 from rfl] at this; omega
          clear hbd
          have Hc := hidO (fun W => parse_ok s W hs v hv)
          by_cases hi : Lib.itoa v = L s
          · have HF := hidO (opR_num hkn (show numOf (L s) = some v by unfold numOf; rw [hv]; simp [hi]))
            have hbe := lst_true hi
            clear hv hkn hi HK
            go_wp2_with (go_at_call 47; refine (Hc.out _).mono ?_; rintro e w1 ⟨rfl, hb1⟩)
            have hE1 := hE0.low hb1
            refine (format_any v w1 hv0 hv1 hE1).mono ?_
            rintro e w2 ⟨rfl, hb2⟩
            have hB2 := ((BlkO.new w 0 0 (.slice none 0 0)).step hb1).step hb2
            have hw2 : Below w.heap.size w w2 := (hb0.trans (hb1.mono (by simp))).trans (hb2.mono (by have := hb1.size; simp at this; omega))
            obtain ⟨d0, d1, d2⟩ := hB2.cells
            obtain ⟨g0, g1, g2⟩ := hB2.free
            have HB2 := hidO hB2
            have HW2 := hidO hw2
            clear hb0 hb1 hb2 hE0 hE1 hB2 hw2 c0 c1 c2 f0 f1 f2
            go_wp2
            exact bodyPost_ret ((HB2.out.put 1 v (.slice none 0 0)).ret (t := 2) (u := 3) rfl rfl) rfl ⟨HF.out, bel_put HW2.out (Nat.le_refl _) _ _ _⟩
          · have HF := hidO (opR_none hkn (show numOf (L s) = none by unfold numOf; rw [hv]; simp [hi]))
            have hbe := lst_false hi
            clear hv hkn hi HK
            go_wp2_with (go_at_call 47; refine (Hc.out _).mono ?_; rintro e w1 ⟨rfl, hb1⟩)
            have hE1 := hE0.low hb1
            refine (format_any v w1 hv0 hv1 hE1).mono ?_
            rintro e w2 ⟨rfl, hb2⟩
            have hB2 := ((BlkO.new w 0 0 (.slice none 0 0)).step hb1).step hb2
            have hw2 : Below w.heap.size w w2 := (hb0.trans (hb1.mono (by simp))).trans (hb2.mono (by have := hb1.size; simp at this; omega))
            obtain ⟨d0, d1, d2⟩ := hB2.cells
            obtain ⟨g0, g1, g2⟩ := hB2.free
            have HB2 := hidO hB2
            have HW2 := hidO hw2
            clear hb0 hb1 hb2 hE0 hE1 hB2 hw2 c0 c1 c2 f0 f1 f2
            go_wp2
            exact bodyPost_ret ((HB2.out.put 0 0 (.slice none 0 0)).ret (t := 2) (u := 3) rfl rfl) rfl ⟨HF.out, bel_put HW2.out (Nat.le_refl _) _ _ _⟩
        · have hp' : ∀ v, Lib.parseIntB 64 (L s) ≠ .ok v := fun v hv => hp ⟨v, hv⟩
          have HF := hidO (opR_none hkn (show numOf (L s) = none by
            unfold numOf
            cases hq : Lib.parseIntB 64 (L s) with
            | ok v => exact absurd hq (hp' v)
            | «syntax» => rfl
            | range => rfl))
          have Hc := hidO (fun W hW => parse_no s W hs hW hp')
          clear hp hp' hkn HK
          go_wp2_with (go_at_call 47; refine (Hc.out _ hE0).mono ?_)
          rintro e w1 z T pp rfl hb1
          have hB2 := (BlkO.new w 0 0 (.slice none 0 0)).step (hb1.mono (by simp))
          have hw2 : Below w.heap.size w w1 := hb0.trans (hb1.mono (by simp))
          obtain ⟨d0, d1, d2⟩ := hB2.cells
          obtain ⟨g0, g1, g2⟩ := hB2.free
          have HB2 := hidO hB2
          have HW2 := hidO hw2
          clear hb0 hb1 hE0 hB2 hw2 c0 c1 c2 f0 f1 f2
          go_wp2
          exact bodyPost_ret ((HB2.out.put 0 0 (.slice none 0 0)).ret (t := 2) (u := 3) rfl rfl) rfl ⟨HF.out, bel_put HW2.out (Nat.le_refl _) _ _ _⟩
end Go.Proofs.YtaaijlkjbmpegaaDoor
