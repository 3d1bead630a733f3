/- Texts laid together: HalvesO, FFn. -/
import Derived.Test.YtejgcflcckjlpaaGreatDoorBC43
import Derived.ProofKit
import Derived.OpenShut
import Derived.ShutString
import Derived.ChangeOld
import Derived.Below
import Derived.SliceStrings
import Derived.LaidMore
import Derived.WalkSmall
import Derived.Stop.Joined
import Derived.Test.YtejgcflcckjlpaaGreatDoorBC32
/- The table of sums, as the program's text lays it; it stands where nothing below is written. -/
namespace Go.Proofs.YtejgcflcckjlpaaGreatDoor
open Go.ChangeShapes Go.WideShapes Go.ChangeAt Go.RowKit
set_option linter.unusedVariables false
set_option maxRecDepth 100000


theorem cell_block {w : World} {b o : Nat} {v : Value} (h : w.cell? ⟨b, o, none⟩ = some v) : b < w.heap.size := by
  rcases Nat.lt_or_ge b w.heap.size with h1 | h1
  · exact h1
  · simp [World.cell?, h1] at h

/-- The table as the program's text has it. -/
def tab : List Int := [0, 498536548, 997073096, 651767980, 1994146192, 1802195444, 1303535960, 1342533948, 3988292384, 4027552580, 3604390888, 3412177804, 2607071920, 2262029012, 2685067896, 3183342108]
theorem tab_half : ∀ k : Fin 16, tab[k.val]? = some (wd (half k.val)) := by decide +kernel
theorem gHalves : Tryz.prog.globalNamed "thresher/sum.halves" = some 0 := by kernel_rfl
theorem tHalves : (Tryz.prog.globals[0]?).map (·.type) = some 127 := by kernel_rfl
theorem halves_of_laid {W : World} (h : laidMetH Tryz.prog [("thresher/sum.halves", Rows.laid_thresher_sum_halves)] W) : Halves W := by
  rw [MakeChecks.laidMetH_plain _ _ _ (by kernel_rfl)] at h
  obtain ⟨ps, ⟨g0, t0, cs0, f0, p0, q0, hg0, ht0, hv0, hd0, _, _⟩, _, _⟩ := h
  obtain rfl := Option.some.inj (gHalves.symm.trans hg0)
  obtain rfl := Option.some.inj (tHalves.symm.trans ht0)
  obtain ⟨xs, m1, rfl, hx1, hlen, hn3, hel⟩ := DataW.trod_array Tryz.underlying127 hd0
  have c23 : Tryz.prog.cellsOf 75 = 1 := by kernel_rfl
  have e1 : tab.map (fun n => (.lit (.int .u32 n) : DataW Unit)) = xs.map (fun x => x.fst) := by
    simp only [Prod.mk.injEq] at hx1
    have := hx1.1
    unfold Rows.laid_thresher_sum_halves at this
    exact (DataW.agg.injEq _ _).mp this
  intro k hk
  have ht : tab[k]? = some (wd (half k)) := tab_half ⟨k, hk⟩
  have hx : (xs.map (fun x => x.fst))[k]? = some (.lit (.int .u32 (wd (half k)))) := by
    rw [← e1, List.getElem?_map, ht]
    rfl
  have h1 := hel k hk
  rw [c23, Nat.mul_one] at h1
  rw [List.getElem?_map] at hx
  cases hy : xs[k]? with
  | none => rw [hy] at hx; cases hx
  | some y =>
    rw [hy] at hx h1
    obtain ⟨n, e1, e2, _⟩ := DataW.trod_int Tryz.underlying75 h1
    have hn : n = wd (half k) := by
      rw [e2] at hx
      simpa using hx
    subst hn
    have hc := World.var?_cell hg0 hv0 k
    rw [hc]
    have hd : cs0.toList[k]? = some (.int .u32 (wd (half k))) := by
      have := congrArg (fun l => l[0]?) e1
      simpa using this
    simpa using hd

theorem Halves.below {w W : World} {B : Nat} (h : Halves w) (hb : Below B w W) (h0 : 0 < B) : Halves W := fun k hk => (hb.cell (p := ⟨0, k, none⟩) h0).trans (h k hk)
theorem Halves.pos {w : World} (h : Halves w) : 0 < w.heap.size := cell_block (h 0 (by decide))
theorem Halves.drewN {w : World} (h : Halves w) (q : Nat) : Halves (w.drewN q) := fun k hk => by rw [← h k hk]; simp
end Go.Proofs.YtejgcflcckjlpaaGreatDoor
/- Contracts: frame.Bytes, frame.Take, and the page's own. -/
namespace Go.Proofs.YtejgcflcckjlpaaGreatDoor
open Go.RowKit
set_option linter.unusedVariables false
set_option maxRecDepth 100000

theorem bel_next {w w1 w2 : World} (h : Below w.heap.size w w1) (h2 : Below w1.heap.size w1 w2) : Below w.heap.size w w2 := h.trans (h2.mono h.size)
theorem bel_drewN {w w1 : World} (h : Below w.heap.size w w1) (q : Nat) : Below w.heap.size w (w1.drewN q) := bel_next h (below_draws w1 q)
theorem sum5_any (s : ByteArray) (w : World) (hs : s.size ≤ maxLen) (h : Halves w) : Calls Tryz.prog 54 #[.string s] w fun e w' => e = .returned (.int .u32 (fSum s)) ∧ w' = w := sum_any s w hs h
theorem sumOf_any (a s : ByteArray) (w : World) (hs : a.size + s.size ≤ 100000) (h : Halves w) :
    Calls Tryz.prog 41 #[.string a, .string s] w fun e w' => e = .returned (.int .u32 (fSum (a ++ s))) ∧ w' = w := by
  have hadd : ∀ W, (Op.stringOp .add a s).run Tryz.prog W = .ok (.string (a ++ s)) W := fun W => run_string_add_sum W _ _ (by omega)
  go_enter Tryz.func41, Tryz.ntmps41
  go_wp2_with (go_at_call 54; refine (sum5_any _ _ (by rw [ByteArray.size_append]; unfold maxLen; omega) h).mono ?_; rintro e w' ⟨rfl, rfl⟩)
  go_ret
  exact ⟨rfl, rfl⟩

theorem fbytes_big (s : ByteArray) (w : World) (hs : 32768 < s.size) :
    Calls Tryz.prog 22 #[.string s] w fun e w' => e = .returned (.tuple #[.string ⟨#[]⟩, .int .i64 2]) ∧ w' = w := by
  have hd : decide (32768 < (s.size : Int)) = true := decide_eq_true (by omega)
  go_enter Tryz.func22, Tryz.ntmps22
  go_wp2
  go_ret2
  exact ⟨rfl, rfl⟩

set_option maxRecDepth 100000 in
theorem fbytes_ok (s : ByteArray) (w : World) (hs : s.size ≤ 32768) (h : Halves w) :
    Calls Tryz.prog 22 #[.string s] w fun e w' => e = .returned (.tuple #[.string (frameOf s), .int .i64 0]) ∧ Below w.heap.size w w' := by
  have hd : decide (32768 < (s.size : Int)) = false := decide_eq_false (by omega)
  have l4 := four_size (s.size : Int)
  have hl := fSum_lt (four (s.size : Int) ++ s)
  have l8 := four_size (fSum (four (s.size : Int) ++ s))
  have hadd : ∀ W, (Op.stringOp .add (four (s.size : Int)) (four (fSum (four (s.size : Int) ++ s)))).run Tryz.prog W = .ok (.string (four (s.size : Int) ++ four (fSum (four (s.size : Int) ++ s)))) W := fun W => run_string_add_sum W _ _ (by omega)
  have hadd2 : ∀ W, (Op.stringOp .add (four (s.size : Int) ++ four (fSum (four (s.size : Int) ++ s))) s).run Tryz.prog W = .ok (.string (four (s.size : Int) ++ four (fSum (four (s.size : Int) ++ s)) ++ s)) W := fun W => run_string_add_sum W _ _ (by rw [ByteArray.size_append]; omega)
  have h4 := fun W => four_any (s.size : Int) W (by omega) (by omega)
  have h5 := fun W (hW : Halves W) => sumOf_any (four (s.size : Int)) s W (by omega) hW
  have h6 := fun W => four_any (fSum (four (s.size : Int) ++ s)) W hl.1 hl.2
  unfold frameOf
  go_enter Tryz.func22, Tryz.ntmps22
  go_wp2_with fail
  refine (h4 _).mono ?_
  rintro e w1 ⟨rfl, hb1⟩
  have hh := h.below hb1 h.pos
  clear h4
  go_wp2_with fail
  refine (h5 _ hh).mono ?_
  rintro e w2 ⟨rfl, hw2⟩
  subst hw2
  clear h5
  go_wp2_with fail
  refine (h6 _).mono ?_
  rintro e w2 ⟨rfl, hb2⟩
  clear h6
  go_wp2_with fail
  go_ret2
  exact ⟨rfl, bel_next hb1 hb2⟩

/-- What Take answers, of a place. -/
def TakePost (s : ByteArray) (w : World) (e : Ending) (w' : World) : Prop := e = .returned (.tuple #[.string (fTake s).1, .int .i64 (fTake s).2.1, .int .i64 (fTake s).2.2]) ∧ Below w.heap.size w w'
theorem take_of {s t : ByteArray} {j e : Int} (h : fTake s = (t, j, e)) (w w' : World) (hb : Below w.heap.size w w') : TakePost s w (.returned (.tuple #[.string t, .int .i64 j, .int .i64 e])) w' := by
  unfold TakePost; rw [h]; exact ⟨rfl, hb⟩

set_option maxRecDepth 100000 in
set_option maxHeartbeats 400000 in
theorem ftake_any (s : ByteArray) (w : World) (hs : s.size ≤ 100000) (h : Halves w) :
    Calls Tryz.prog 43 #[.string s] w fun e w' => TakePost s w e w' := by
  by_cases h8 : s.size < 8
  · have hd : decide ((s.size : Int) < 8) = true := decide_eq_true (by omega)
    go_enter Tryz.func43, Tryz.ntmps43
    go_wp2
    go_ret3
    exact take_of (fTake_short h8) _ _ (Below.refl _ _)
  have hd8 : decide ((s.size : Int) < 8) = false := decide_eq_false (by omega)
  obtain ⟨n, hn, hn1⟩ := fourOf_nat s
  obtain ⟨m, hm, hm1⟩ := fourOf_nat (s.extract 4 s.size)
  have ht := fun W => takeFour_in s W (by unfold maxLen; omega) (by omega)
  have ht2 := fun W => takeFour_in (s.extract 4 s.size) W (by rw [ByteArray.size_extract]; unfold maxLen; omega) (by rw [ByteArray.size_extract]; omega)
  rw [hn] at ht
  rw [hm] at ht2
  by_cases hbig : 32768 < n
  · have hE := take_of (fTake_over h8 hn hbig) w
    have hd : decide ((32768 : Int) < (n : Int)) = true := decide_eq_true (by omega)
    clear hn hm
    go_enter Tryz.func43, Tryz.ntmps43
    go_wp2_with fail
    refine (ht _).mono ?_
    rintro e w1 ⟨rfl, hb1⟩
    go_wp2_with fail
    refine (ht2 _).mono ?_
    rintro e w2 ⟨rfl, hb2⟩
    go_wp2_with fail
    go_ret3
    exact hE _ (bel_next hb1 hb2)
  have hdb : decide ((32768 : Int) < (n : Int)) = false := decide_eq_false (by omega)
  by_cases hcut : s.size < 8 + n
  · have hE := take_of (fTake_cut h8 hn hbig hcut) w
    have hd : decide ((s.size : Int) < 8 + (n : Int)) = true := decide_eq_true (by omega)
    clear hn hm
    go_enter Tryz.func43, Tryz.ntmps43
    go_wp2_with fail
    refine (ht _).mono ?_
    rintro e w1 ⟨rfl, hb1⟩
    go_wp2_with fail
    refine (ht2 _).mono ?_
    rintro e w2 ⟨rfl, hb2⟩
    go_wp2_with fail
    go_ret3
    exact hE _ (bel_next hb1 hb2)
  have hdc : decide ((s.size : Int) < 8 + (n : Int)) = false := decide_eq_false (by omega)
  have hs5 := fun W (hW : Halves W) => sumOf_any (s.extract 0 4) (s.extract 8 (8 + n)) W (by rw [ByteArray.size_extract, ByteArray.size_extract]; omega) hW
  have hO := fTake_ok h8 hn hbig hcut
  have hS := fTake_sum h8 hn hbig hcut
  rw [hm] at hO hS
  generalize fSum (s.extract 0 4 ++ s.extract 8 (8 + n)) = c at hs5 hO hS
  clear hn hm
  by_cases hc : c = (m : Int)
  · have hE := take_of (hO hc) w
    have hd : (c == (m : Int)) = true := by simpa using hc
    subst hc
    clear hO hS
    go_enter Tryz.func43, Tryz.ntmps43
    go_wp2_with fail
    refine (ht _).mono ?_
    rintro e w1 ⟨rfl, hb1⟩
    go_wp2_with fail
    refine (ht2 _).mono ?_
    rintro e w2 ⟨rfl, hb2⟩
    have hb := bel_next hb1 hb2
    have hh := h.below hb h.pos
    clear ht ht2 hb1 hb2
    go_wp2_with fail
    go_quiet ((go_at_call 41; exact Calls.quiet_of_same (hs5 _ (by first | exact hh | exact hh.drewN _))))
    go_wp2_with fail
    go_ret3
    exact hE _ (bel_drewN hb _)
  · have hE := take_of (hS hc) w
    have hd : (c == (m : Int)) = false := by simpa using hc
    clear hO hS
    go_enter Tryz.func43, Tryz.ntmps43
    go_wp2_with fail
    refine (ht _).mono ?_
    rintro e w1 ⟨rfl, hb1⟩
    go_wp2_with fail
    refine (ht2 _).mono ?_
    rintro e w2 ⟨rfl, hb2⟩
    have hb := bel_next hb1 hb2
    have hh := h.below hb h.pos
    clear ht ht2 hb1 hb2
    go_wp2_with fail
    go_quiet ((go_at_call 41; exact Calls.quiet_of_same (hs5 _ (by first | exact hh | exact hh.drewN _))))
    go_wp2_with fail
    go_ret3
    exact hE _ (bel_drewN hb _)

end Go.Proofs.YtejgcflcckjlpaaGreatDoor
