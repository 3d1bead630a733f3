/- Texts laid together: EEq, LOpen, ERecO, EOpen, LHeavy, ELaw. -/
import Derived.Test.YtaagllbcmgnbnaaGreatDoorMB4
import Derived.Test.YtaagllbcmgnbnaaGreatDoorMB48
import Derived.Test.YtaagllbcmgnbnaaGreatDoorMB23
import Derived.Test.YtaagllbcmgnbnaaGreatDoorMB24
import Derived.Deep.QuietTactic
import Derived.BigQuiet
import Derived.WalkSmall
import Derived.Test.YtaagllbcmgnbnaaGreatDoorMB15
import Derived.Test.YtaagllbcmgnbnaaGreatDoorMB3
import Derived.ChangeArms
import Derived.Test.YtaagllbcmgnbnaaGreatDoorMB2
import Derived.Test.YtaagllbcmgnbnaaGreatDoorMB18
/- RecsWeight, EqRecs. -/
namespace Go.Proofs.YtaagllbcmgnbnaaGreatDoor
open Go.RowKit
set_option linter.unusedVariables false
set_option maxRecDepth 100000

theorem rweight_anyE (v : Value) (l : List Rc) (w : World) (h : RS w v l) (hl : l.length ≤ 4398046510976) (hwf : Wf l) : Calls Tryz.prog 27 #[v] w fun e w' => (∃ n : Int, e = .returned (.int .i64 n) ∧ (l.length : Int) ≤ n) ∧ w' = w := by
  obtain ⟨a, cap, rfl, h⟩ := h
  rcases h with rfl | ⟨b, off, rfl, hb, hat⟩
  · go_enter Tryz.func27, Tryz.ntmps27
    go_wp2
    go_loop [3, 4] (fun n i => n = .int .i64 0 ∧ i = .int .i64 0) (fun _ _ => 0)
    case atStart => exact ⟨rfl, rfl⟩
    case round =>
      obtain ⟨rfl, rfl⟩ := hrel
      go_wp2
      go_ret
      exact ⟨⟨_, rfl, by simp⟩, rfl⟩
  · go_enter Tryz.func27, Tryz.ntmps27
    go_wp2
    go_loop [3, 4] (fun n i => ∃ (k : Nat) (x : Int), k ≤ l.length ∧ i = .int .i64 k ∧ n = .int .i64 x ∧ (l.length : Int) ≤ x) (fun _ i => l.length - (intOf i).toNat)
    case atStart => exact ⟨0, _, by omega, rfl, rfl, by omega⟩
    case round =>
      obtain ⟨k, x, hk, rfl, rfl, hlx⟩ := hrel
      by_cases hlt : k < l.length
      · obtain ⟨y, hy⟩ := getSomeL hlt
        obtain ⟨c0, c1, c2⟩ := hat k y hy
        have hsz := (hwf y (List.mem_of_getElem? hy)).txt
        obtain ⟨⟨ya, yb⟩, yv⟩ := y
        simp only at hsz c0 c1 c2
        clear hat hy
        by_cases hx : x < 1048576
        · go_wp2
          go_round
          case rel => exact ⟨k + 1, _, by omega, by go_num, rfl, by omega⟩
          case measure => simp [intOf]; omega
        · have hx' : (1048576 : Int) ≤ x := by omega
          go_wp2
          go_ret
          exact ⟨⟨_, rfl, hlx⟩, rfl⟩
      · have hlt' : l.length ≤ k := by omega
        go_wp2
        go_ret
        exact ⟨⟨_, rfl, hlx⟩, rfl⟩

end Go.Proofs.YtaagllbcmgnbnaaGreatDoor
/- The law's argument: texts and ops, opened. -/
namespace Go.Proofs.YtaagllbcmgnbnaaGreatDoor
open Go.ChangeShapes Go.WideShapes Go.ChangeAt Go.RowKit Go.Deep
set_option linter.unusedVariables false
set_option maxRecDepth 100000

theorem Tryz.cellsAsk : Tryz.prog.cellsOf 55 = 2 := by kernel_rfl
theorem Tryz.cellsOp : Tryz.prog.cellsOf 171 = 3 := by kernel_rfl
theorem Tryz.bytesOp : Tryz.prog.bytesOf 171 = 40 := by kernel_rfl
theorem Tryz.cells2L : Tryz.prog.cellsOf 2 = 1 := by kernel_rfl
theorem Tryz.cells3L : Tryz.prog.cellsOf 3 = 1 := by kernel_rfl
theorem Tryz.cellsOps : Tryz.prog.cellsOf 53 = 1 := by kernel_rfl
theorem Tryz.cellsStrs : Tryz.prog.cellsOf 52 = 1 := by kernel_rfl
theorem i64_of_wfL {n : Int} (h : (Lit.int .i64 n).wf = true) : -9223372036854775808 ≤ n ∧ n ≤ 9223372036854775807 := by
  simpa [Lit.wf, IntKind.min, IntKind.max, IntKind.signed, IntKind.bits] using h
/-- Ops out of what stands at each place. -/
def mkFo (g : Nat → Int × Int × Fo) : Nat → Nat → Fo
  | _, 0 => .nil
  | i, n + 1 => .cons (g i).1 (g i).2.1 (g i).2.2 (mkFo g (i + 1) n)
theorem mkFo_len (g : Nat → Int × Int × Fo) : ∀ (n i : Nat), (mkFo g i n).len = n
  | 0, _ => rfl
  | n + 1, i => by simp [mkFo, Fo.len, mkFo_len g n (i + 1)]
/-- What is asked of the op at a place. -/
structure OpAt (W : World) (b o : Nat) (y : Int × Int × Fo) : Prop where
  k : -9223372036854775808 ≤ y.1 ∧ y.1 ≤ 9223372036854775807
  n : -9223372036854775808 ≤ y.2.1 ∧ y.2.1 ≤ 9223372036854775807
  c0 : W.cell? ⟨b, o, none⟩ = some (.int .i64 y.1)
  c1 : W.cell? ⟨b, o + 1, none⟩ = some (.int .i64 y.2.1)
  c2 : ∃ v, W.cell? ⟨b, o + 2, none⟩ = some v ∧ FS QA W v y.2.2
  len : y.2.2.len ≤ 3518437208780
  wb : WfB y.2.2
  wn : WfN y.2.2
theorem mkFo_at {W : World} {b off : Nat} (g : Nat → Int × Int × Fo) : ∀ (n i : Nat), (∀ j, j < n → OpAt W b (off + (i + j) * 3) (g (i + j))) → FoAt QA W (mkFo g i n) b (off + i * 3) ∧ WfB (mkFo g i n) ∧ WfN (mkFo g i n)
  | 0, i, _ => ⟨trivial, trivial, trivial⟩
  | n + 1, i, h => by
    have h0 := h 0 (by omega)
    rw [Nat.add_zero] at h0
    obtain ⟨r1, r2, r3⟩ := mkFo_at g n (i + 1) (fun j hj => by have := h (j + 1) (by omega); rw [show i + 1 + j = i + (j + 1) by omega]; exact this)
    obtain ⟨v, hv, a, cap, e, hb⟩ := h0.c2
    refine ⟨⟨h0.c0, h0.c1, ⟨a, cap, by rw [← e]; exact hv, hb⟩, ?_⟩, ⟨h0.len, h0.wb, r2⟩, ⟨h0.k, h0.n, h0.wn, r3⟩⟩
    rw [show off + i * 3 + 3 = off + (i + 1) * 3 by omega]
    exact r1

/-- A slice's room. -/
def Capd (v : Value) : Prop := ∃ a n c, v = .slice a n c ∧ n ≤ c ∧ c ≤ 9223372036854775807
/-- A slice of ops that came in. -/
theorem open_ops {H : Type} {enc : TypeId × Value → H} {W : World} : ∀ (fuel : Nat) (v : Value) (d : DataW H × List MemPlace), DataW.trod enc Tryz.prog W 0 (fun _ => true) true fuel 53 [v] = some d → Light Tryz.prog 53 d.1 →
    ∃ f : Fo, FS QA W v f ∧ f.len ≤ 3518437208780 ∧ WfB f ∧ WfN f ∧ Capd v := by
  intro fuel
  induction fuel using Nat.strongRecOn with
  | ind fuel ih =>
    intro v d hf hlg
    rcases DataW.trod_slice Tryz.underlying53 hf with ⟨hcs, _⟩ | ⟨x, len, cap, elems, rest, n, hfu, hcs, hx, _, hl, hm, hel, hall, _, _⟩
    · simp at hcs
      subst hcs
      exact ⟨.nil, FS.nil _, by simp [Fo.len], trivial, trivial, _, _, _, rfl, Nat.le_refl _, by omega⟩
    · simp at hcs
      subst hcs
      subst hx
      obtain ⟨hlg1, hlg2⟩ := light_slice Tryz.underlying53 hlg
      rw [Tryz.bytesOp] at hlg1
      simp only [List.length_map] at hlg1
      unfold reachBytes at hlg1
      by_cases h0 : len = 0
      · subst h0
        exact ⟨.nil, ⟨_, cap, rfl, .inl rfl⟩, by simp [Fo.len], trivial, trivial, _, _, _, rfl, hl, by unfold maxLen at hm; omega⟩
      obtain ⟨b, off, spot⟩ := x
      rw [Tryz.cellsOp] at hall
      have hget : ∀ i, i < len → ∃ cs y, W.cells? 0 ((⟨b, off, spot⟩ : Addr).add (i * 3)) 3 = some cs ∧ DataW.trod enc Tryz.prog W 0 (fun _ => true) true n 171 cs = some y ∧ elems[i]? = some y := by
        intro i hi
        have := hall i hi
        obtain ⟨y, hy⟩ : ∃ y, elems[i]? = some y := ⟨_, List.getElem?_eq_getElem (by omega)⟩
        rw [hy] at this
        cases hc : W.cells? 0 ((⟨b, off, spot⟩ : Addr).add (i * 3)) 3 with
        | none => rw [hc] at this; simp at this
        | some cs => rw [hc] at this; exact ⟨cs, y, rfl, by simpa using this, hy⟩
      obtain ⟨cs, _, hc, _, _⟩ := hget 0 (by omega)
      obtain ⟨_, hcl, hcell⟩ := World.cells?_some hc
      have hspot : spot = none := by
        have e := hcell 0 (by omega)
        match cs, hcl with
        | [v0, v1, v2], _ => simpa [Addr.add] using World.cell?_spot e
      subst hspot
      have hb : b < W.heap.size := by simpa [add_plain] using World.cells?_block hc (by decide)
      have hop : ∀ i, i < len → ∃ y : Int × Int × Fo, OpAt W b (off + i * 3) y := by
        intro i hi
        obtain ⟨cs, y, hc, ht, hy⟩ := hget i hi
        obtain ⟨_, hcl, hcell⟩ := World.cells?_some hc
        obtain ⟨xs, k, hk, hD, _, hxl, hfld⟩ := DataW.trod_struct Tryz.underlying171 ht
        obtain ⟨y0, y1, y2, rfl⟩ : ∃ y0 y1 y2, xs = [y0, y1, y2] := by
          match xs, hxl with
          | [y0, y1, y2], _ => exact ⟨y0, y1, y2, rfl⟩
        have hg : Light Tryz.prog 171 y.1 := hlg2 _ (List.mem_map.2 ⟨y, List.mem_of_getElem? hy, rfl⟩)
        have hD1 : y.1 = .agg [y0.1, y1.1, y2.1] := by rw [hD]; rfl
        rw [hD1] at hg
        match cs, hcl with
        | [v0, v1, v2], _ =>
          have g0 := hfld 0 _ rfl
          have g1 := hfld 1 _ rfl
          have g2 := hfld 2 _ rfl
          simp [Tryz.cells2L, Tryz.cells3L, Tryz.cellsOps] at g0 g1 g2
          have hg2 := light_agg Tryz.underlying171 hg (j := 2) (u := 53) (d := y2.1) rfl rfl
          obtain ⟨n0, e0, _, w0⟩ := DataW.trod_int Tryz.underlying3 g0
          obtain ⟨n1, e1, _, w1⟩ := DataW.trod_int Tryz.underlying2 g1
          obtain ⟨f2, hfs, hfl, hwb, hwn, _⟩ := ih k (by omega) v2 y2 g2 hg2
          simp at e0 e1
          subst e0 e1
          have a0 := hcell 0 (by omega)
          have a1 := hcell 1 (by omega)
          have a2 := hcell 2 (by omega)
          rw [add_add, add_plain] at a0 a1 a2
          exact ⟨(n0, n1, f2), i64_of_wfL w0, i64_of_wfL w1, by simpa using a0, by simpa [Nat.add_assoc] using a1, ⟨v2, by simpa [Nat.add_assoc] using a2, hfs⟩, hfl, hwb, hwn⟩
      let g : Nat → Int × Int × Fo := fun i => if h : i < len then (hop i h).choose else (0, 0, .nil)
      have hg' : ∀ i (h : i < len), g i = (hop i h).choose := fun i h => by simp [g, h]
      have hmk := mkFo_at (W := W) (b := b) (off := off) g len 0 (fun j hj => by rw [Nat.zero_add, hg' j hj]; exact (hop j hj).choose_spec)
      rw [Nat.zero_mul, Nat.add_zero] at hmk
      refine ⟨mkFo g 0 len, ⟨_, cap, by rw [mkFo_len], .inr ⟨b, off, rfl, hb, hmk.1⟩⟩, by rw [mkFo_len]; omega, hmk.2.1, hmk.2.2, _, _, _, rfl, hl, by unfold maxLen at hm; omega⟩

end Go.Proofs.YtaagllbcmgnbnaaGreatDoor
/- A slice of records that came in, opened. -/
namespace Go.Proofs.YtaagllbcmgnbnaaGreatDoor
open Go.ChangeShapes Go.WideShapes Go.ChangeAt Go.RowKit Go.Deep
open Go.ChangeMaps (open_string shut_string)
set_option linter.unusedVariables false
set_option maxRecDepth 100000

/-- A slice of records that came in. -/
theorem open_recsE {H : Type} {enc : TypeId × Value → H} {W : World} {fuel : Nat} {a : Option Addr} {len cap : Nat} {d : DataW H × List MemPlace} (hf : DataW.trod enc Tryz.prog W 0 (fun _ => true) true fuel 23 [.slice a len cap] = some d) (hlg : Light Tryz.prog 23 d.1) :
    ∃ l : List Rc, l.length = len ∧ l.length ≤ 4398046510976 ∧ Wf l ∧ RS W (.slice a len cap) l := by
  rcases open_slice Tryz.underlying23 hf with ⟨hcs, _⟩ | ⟨x, l, c, m, n, D, Pl, hcs, _, hl, hm, hmm, hx, hel⟩
  · simp at hcs
    obtain ⟨rfl, rfl, rfl⟩ := hcs
    exact ⟨[], rfl, Nat.zero_le _, fun x hx => by simp at hx, none, 0, rfl, .inl rfl⟩
  · simp at hcs
    obtain ⟨rfl, rfl, rfl⟩ := hcs
    simp at hmm
    subst hmm
    subst hx
    obtain ⟨hlg1, hlg2⟩ := light_slice Tryz.underlying23 hlg
    rw [Tryz.bytesRec] at hlg1
    simp only [List.length_map, List.length_range] at hlg1
    unfold reachBytes at hlg1
    have hlg3 : ∀ i, i < len → Light Tryz.prog 68 (D i) := fun i hi => hlg2 _ (List.mem_map.2 ⟨i, List.mem_range.2 hi, rfl⟩)
    clear hlg2
    by_cases h0 : len = 0
    · subst h0
      exact ⟨[], rfl, Nat.zero_le _, fun x hx => by simp at hx, _, _, rfl, .inl rfl⟩
    obtain ⟨b, off, spot⟩ := x
    rw [Tryz.cellsRec] at hel
    have first := hel 0 (by omega)
    obtain ⟨cs, hc, _⟩ := first
    obtain ⟨_, hcl, hcell⟩ := World.cells?_some hc
    have hspot : spot = none := by
      have e := hcell 0 (by omega)
      match cs, hcl with
      | [v0, v1, v2], _ => simpa [Addr.add] using World.cell?_spot e
    subst hspot
    have hb : b < W.heap.size := by simpa [add_plain] using World.cells?_block hc (by decide)
    have hall : ∀ i, i < len → ∃ y : Rc, Wr y ∧ W.cell? ⟨b, off + i * 3, none⟩ = some (.int .i64 y.1.1) ∧ W.cell? ⟨b, off + i * 3 + 1, none⟩ = some (.string y.1.2) ∧ W.cell? ⟨b, off + i * 3 + 2, none⟩ = some (.int .i64 y.2) := by
      intro i hi
      obtain ⟨cs, hc, ht⟩ := hel i (by omega)
      obtain ⟨_, hcl, hcell⟩ := World.cells?_some hc
      obtain ⟨xs, k, hk, hD, _, hxl, hfld⟩ := DataW.trod_struct Tryz.underlying68 ht
      have hg := hlg3 i hi
      injection hD with hD _
      rw [hD] at hg
      match cs, hcl, xs, hxl with
      | [v0, v1, v2], _, [y0, y1], _ =>
        have g0 := hfld 0 _ rfl
        have g1 := hfld 1 _ rfl
        simp [Tryz.cells2L, Tryz.cellsKey] at g0 g1
        have hg0 := light_agg Tryz.underlying68 hg (j := 0) (u := 66) (d := y0.1) rfl rfl
        obtain ⟨xs', k', _, hD', _, hxl', hfld'⟩ := DataW.trod_struct Tryz.underlying66 g0
        rw [hD'] at hg0
        match xs', hxl' with
        | [z0, z1], _ =>
          have g2 := hfld' 0 _ rfl
          have g3 := hfld' 1 _ rfl
          simp [Tryz.cells2L, Tryz.cells9L] at g2 g3
          obtain ⟨n0, e0, _, w0⟩ := DataW.trod_int Tryz.underlying2 g2
          have hg1 := light_agg Tryz.underlying66 hg0 (j := 1) (u := 9) (d := z1.1) rfl rfl
          obtain ⟨s3, e3, x3, _⟩ := DataW.trod_string Tryz.underlying9 g3
          rw [x3] at hg1
          have w3 := light_string hg1
          unfold reachBytes at w3
          obtain ⟨n1, e1, _, w1⟩ := DataW.trod_int Tryz.underlying2 g1
          simp at e0 e3 e1
          subst e0 e3 e1
          have a0 := hcell 0 (by omega)
          have a1 := hcell 1 (by omega)
          have a2 := hcell 2 (by omega)
          rw [add_add, add_plain] at a0 a1 a2
          exact ⟨((n0, s3), n1), ⟨(i64_of_wfL w0).1, (i64_of_wfL w0).2, w3, (i64_of_wfL w1).1, (i64_of_wfL w1).2⟩, by simpa using a0, by simpa [Nat.add_assoc] using a1, by simpa [Nat.add_assoc] using a2⟩
    let f : Nat → Rc := fun i => if h : i < len then (hall i h).choose else r0
    have hf' : ∀ i (h : i < len), f i = (hall i h).choose := fun i h => by simp [f, h]
    refine ⟨(List.range len).map f, by simp, by simp; omega, ?_, _, m, by simp, .inr ⟨b, off, rfl, hb, ?_⟩⟩
    · intro x hx
      obtain ⟨i, hi, rfl⟩ := List.mem_map.1 hx
      rw [List.mem_range] at hi
      rw [hf' i hi]
      exact (hall i hi).choose_spec.1
    · intro i x hx
      have hi : i < len := by have := (List.getElem?_eq_some_iff.1 hx).1; simpa using this
      simp [hi] at hx
      subst hx
      rw [hf' i hi]
      exact (hall i hi).choose_spec.2
end Go.Proofs.YtaagllbcmgnbnaaGreatDoor
/- The law's argument: texts, ops, records, fuel, opened. -/
namespace Go.Proofs.YtaagllbcmgnbnaaGreatDoor
open Go.ChangeShapes Go.WideShapes Go.ChangeAt Go.RowKit Go.Deep
open Go.ChangeMaps (open_string shut_string)
set_option linter.unusedVariables false
set_option maxRecDepth 100000

theorem Tryz.cellsAsk8 : Tryz.prog.cellsOf 57 = 4 := by kernel_rfl
theorem Tryz.cellsNums : Tryz.prog.cellsOf 49 = 1 := by kernel_rfl
theorem Tryz.bytes3 : Tryz.prog.bytesOf 3 = 8 := by kernel_rfl
/-- Numbers that an int holds. -/
def WfI (l : List Int) : Prop := ∀ x ∈ l, -9223372036854775808 ≤ x ∧ x ≤ 9223372036854775807
/-- A slice of numbers that came in. -/
theorem open_nums {H : Type} {enc : TypeId × Value → H} {W : World} {fuel : Nat} {a : Option Addr} {len cap : Nat} {d : DataW H × List MemPlace} (hf : DataW.trod enc Tryz.prog W 0 (fun _ => true) true fuel 49 [.slice a len cap] = some d) (hlg : Light Tryz.prog 49 d.1) :
    ∃ l : List Int, l.length = len ∧ l.length ≤ 17592186043904 ∧ WfI l ∧ NS W (.slice a len cap) l := by
  rcases open_slice Tryz.underlying49 hf with ⟨hcs, _⟩ | ⟨x, l, c, m, n, D, Pl, hcs, _, hl, hm, hmm, hx, hel⟩
  · simp at hcs
    obtain ⟨rfl, rfl, rfl⟩ := hcs
    exact ⟨[], rfl, Nat.zero_le _, fun x hx => by simp at hx, none, 0, rfl, .inl rfl⟩
  · simp at hcs
    obtain ⟨rfl, rfl, rfl⟩ := hcs
    simp at hmm
    subst hmm
    subst hx
    obtain ⟨hlg1, hlg2⟩ := light_slice Tryz.underlying49 hlg
    rw [Tryz.bytes3] at hlg1
    simp only [List.length_map, List.length_range] at hlg1
    unfold reachBytes at hlg1
    by_cases h0 : len = 0
    · subst h0
      exact ⟨[], rfl, Nat.zero_le _, fun x hx => by simp at hx, _, _, rfl, .inl rfl⟩
    obtain ⟨b, off, spot⟩ := x
    rw [Tryz.cells3L] at hel
    have first := hel 0 (by omega)
    obtain ⟨cs, hc, _⟩ := first
    obtain ⟨_, hcl, hcell⟩ := World.cells?_some hc
    have hspot : spot = none := by
      have e := hcell 0 (by omega)
      match cs, hcl with
      | [v0], _ => simpa [Addr.add] using World.cell?_spot e
    subst hspot
    have hb : b < W.heap.size := by simpa [add_plain] using World.cells?_block hc (by decide)
    have hall : ∀ i, i < len → ∃ y : Int, (-9223372036854775808 ≤ y ∧ y ≤ 9223372036854775807) ∧ W.cell? ⟨b, off + i, none⟩ = some (.int .i64 y) := by
      intro i hi
      obtain ⟨cs, hc, ht⟩ := hel i (by omega)
      obtain ⟨_, hcl, hcell⟩ := World.cells?_some hc
      match cs, hcl with
      | [v0], _ =>
        obtain ⟨n0, e0, _, w0⟩ := DataW.trod_int Tryz.underlying3 ht
        simp at e0
        subst e0
        have a0 := hcell 0 (by omega)
        rw [add_add, add_plain] at a0
        exact ⟨n0, i64_of_wfL w0, by simpa using a0⟩
    let f : Nat → Int := fun i => if h : i < len then (hall i h).choose else 0
    have hf' : ∀ i (h : i < len), f i = (hall i h).choose := fun i h => by simp [f, h]
    refine ⟨(List.range len).map f, by simp, by simp; omega, ?_, _, m, by simp, .inr ⟨b, off, rfl, hb, ?_⟩⟩
    · intro x hx
      obtain ⟨i, hi, rfl⟩ := List.mem_map.1 hx
      rw [List.mem_range] at hi
      rw [hf' i hi]
      exact (hall i hi).choose_spec.1
    · intro i x hx
      have hi : i < len := by have := (List.getElem?_eq_some_iff.1 hx).1; simpa using this
      simp [hi] at hx
      subst hx
      rw [hf' i hi]
      exact (hall i hi).choose_spec.2
/-- What comes in: texts, ops, records, fuel. -/
structure In8 (W : World) (vs vl vr vf : Value) (l : List ByteArray) (f : Fo) (lr : List Rc) (lf : List Int) : Prop where
  s : SS W vs l ∧ List.length l ≤ 8796093021952 ∧ WfS l
  f : FS QA W vl f ∧ f.len ≤ 3518437208780 ∧ WfB f ∧ WfN f
  r : RS W vr lr ∧ lr.length ≤ 4398046510976 ∧ Wf lr
  n : NS W vf lf ∧ lf.length ≤ 17592186043904 ∧ WfI lf
end Go.Proofs.YtaagllbcmgnbnaaGreatDoor
/- Heavy: one of both. -/
namespace Go.Proofs.YtaagllbcmgnbnaaGreatDoor
open Go.RowKit
set_option linter.unusedVariables false
set_option maxRecDepth 100000

theorem hidA {p : Prop} (h : p) : Hid p := h
/-- What Heavy tells: one of both. -/
def HeavyR (e : Ending) : Prop := ∃ r : Bool, e = .returned (.bool r)
theorem heavy_anyL (vs vl : Value) (l : List ByteArray) (f : Fo) (w : World) (hS : SS w vs l ∧ List.length l ≤ 8796093021952 ∧ WfS l) (hF : FS QA w vl f ∧ f.len ≤ 3518437208780 ∧ WfB f ∧ WfN f) :
    Calls Tryz.prog 125 #[.agg #[vs, vl]] w fun e w' => HeavyR e ∧ Below w.heap.size w w' := by
  have hb := (Below.refl w.heap.size w).alloc (Nat.le_refl _) (.cells #[vs, vl] 55)
  have H1 := hidA (weight_anyL vs l _ (hS.1.below hb) hS.2.1 hS.2.2)
  have H2 := hidA (weightO_any 12 vl f _ (hF.1.below hb) hF.2.1 hF.2.2.1 (Nat.le_refl _))
  rw [show ((12 : Nat) : Int) = 12 from rfl] at H2
  have HB := hidA hb
  obtain ⟨a, cap, rfl, _⟩ := hS.1
  obtain ⟨a', cap', rfl⟩ := hF.1.val
  clear hS hF hb
  go_enter Tryz.func125, Tryz.ntmps125
  go_wp2_with (first | (go_at_call 160; refine H1.out.mono ?_; rintro e w' ⟨⟨n, rfl, hn⟩, rfl⟩) | (go_at_call 161; refine H2.out.mono ?_; rintro e w' ⟨⟨z, rfl, hz⟩, rfl⟩))
  all_goals
    go_ret
    exact ⟨⟨_, rfl⟩, HB.out⟩
end Go.Proofs.YtaagllbcmgnbnaaGreatDoor
/- What stage 8's laws call: num, wakes, Heavy; what holds all along a law. -/
namespace Go.Proofs.YtaagllbcmgnbnaaGreatDoor
open Go.RowKit
set_option linter.unusedVariables false
set_option maxRecDepth 100000
/-- All along the law: the ask's box, and nothing that was there has turned. -/
structure AskE (vs vl vr vf : Value) (l : List ByteArray) (f : Fo) (lr : List Rc) (lf : List Int) (w wr : World) : Prop where
  bel : Below (w.alloc (.cells #[vs, vl, vr, vf] 57)).heap.size (w.alloc (.cells #[vs, vl, vr, vf] 57)) wr
  inn : In8 wr vs vl vr vf l f lr lf
theorem In8.below {W W' : World} {vs vl vr vf : Value} {l : List ByteArray} {f : Fo} {lr : List Rc} {lf : List Int} (h : In8 W vs vl vr vf l f lr lf) (hb : Below W.heap.size W W') : In8 W' vs vl vr vf l f lr lf :=
  ⟨⟨h.s.1.below hb, h.s.2⟩, ⟨h.f.1.below hb, h.f.2⟩, ⟨h.r.1.below hb, h.r.2⟩, ⟨h.n.1.below hb, h.n.2⟩⟩
theorem AskE.start {w : World} {vs vl vr vf : Value} {l : List ByteArray} {f : Fo} {lr : List Rc} {lf : List Int} (h : In8 w vs vl vr vf l f lr lf) : AskE vs vl vr vf l f lr lf w (w.alloc (.cells #[vs, vl, vr, vf] 57)) :=
  ⟨Below.refl _ _, h.below ((Below.refl w.heap.size w).alloc (Nat.le_refl _) _)⟩
theorem AskE.call {w wr w' : World} {vs vl vr vf : Value} {l : List ByteArray} {f : Fo} {lr : List Rc} {lf : List Int} (h : AskE vs vl vr vf l f lr lf w wr) (hb : Below wr.heap.size wr w') : AskE vs vl vr vf l f lr lf w w' :=
  ⟨h.bel.trans (hb.mono h.bel.size), h.inn.below hb⟩
theorem AskE.out {w wr : World} {vs vl vr vf : Value} {l : List ByteArray} {f : Fo} {lr : List Rc} {lf : List Int} (h : AskE vs vl vr vf l f lr lf w wr) : Below w.heap.size w wr :=
  ((Below.refl w.heap.size w).alloc (Nat.le_refl _) _).trans (h.bel.mono (by simp))
theorem AskE.lt {w wr : World} {vs vl vr vf : Value} {l : List ByteArray} {f : Fo} {lr : List Rc} {lf : List Int} (h : AskE vs vl vr vf l f lr lf w wr) : w.heap.size < wr.heap.size := by
  have := h.bel.size
  simp at this
  omega
theorem AskE.cells {w wr : World} {vs vl vr vf : Value} {l : List ByteArray} {f : Fo} {lr : List Rc} {lf : List Int} (h : AskE vs vl vr vf l f lr lf w wr) : wr.cell? ⟨w.heap.size, 0, none⟩ = some vs ∧ wr.cell? ⟨w.heap.size, 1, none⟩ = some vl ∧ wr.cell? ⟨w.heap.size, 2, none⟩ = some vr ∧ wr.cell? ⟨w.heap.size, 3, none⟩ = some vf := by
  have e := h.bel.block w.heap.size (by simp)
  have hn : (w.alloc (.cells #[vs, vl, vr, vf] 57)).heap[w.heap.size]? = some (.cells #[vs, vl, vr, vf] 57 (0, 0)) := heap_alloc_new w _
  rw [hn] at e
  refine ⟨?_, ?_, ?_, ?_⟩ <;> simp [World.cell?, e]
end Go.Proofs.YtaagllbcmgnbnaaGreatDoor
