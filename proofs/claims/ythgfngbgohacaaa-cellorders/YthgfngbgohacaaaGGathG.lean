/- Numbers gathered in two parts: the walk. -/
import Derived.Test.YthgfngbgohacaaaGGath
import Derived.Deep.CutBlock
import Derived.Deep.CutRange
namespace Go.Proofs.Ythgfngbgohacaaa
open Go.RowKit
set_option linter.unusedVariables false
set_option maxRecDepth 100000

/-- What is asked of fewer numbers. -/
def GIH (agg bound way : Int) (m : Nat) : Prop := ∀ (l : List Int) (a : Option Addr) (cap : Nat) (w : World), l.length < m → GIn w a cap l → Calls Try.prog 25 #[.int .i64 agg, .int .i64 bound, .slice a l.length cap, .int .i64 way] w (CellR w (allC agg bound.toNat l).1 (allC agg bound.toNat l).2)
set_option maxHeartbeats 4000000 in
theorem gather2 (agg bound way : Int) (n : Nat) (a0 : Option Addr) (m : Nat) (l : List Int) (a : Option Addr) (cap : Nat) (w : World) (hcut0 : (n ≤ 40 ∧ a = a0 ∧ m = n) ∨ (40 < n ∧ m = 40 ∧ ∀ W, (Instr.slice 23 (.slice a0 n cap) none (some (.int .i64 40)) none).run Try.prog W = .ok (.slice a 40 cap) W)) (hn : (n : Int) ≤ 17592186043904) (hw : wayC agg bound = true) (hway : way = 0 ∨ way = 1 ∨ way = 2) (hm : l.length = m) (h2 : 2 ≤ m) (h40 : m ≤ 40) (h : GIn w a cap l) (ih : GIH agg bound way m) :
    Calls Try.prog 25 #[.int .i64 agg, .int .i64 bound, .slice a0 n cap, .int .i64 way] w (CellR w (allC agg bound.toNat l).1 (allC agg bound.toNat l).2) := by
  have HCUT := hidM hcut0
  clear hcut0
  obtain ⟨W0, hW0⟩ : ∃ W0 : World, w.alloc (.cells #[.int .i64 0, .slice none 0 0] 29) = W0 := ⟨_, rfl⟩
  have hb0 : Below w.heap.size w W0 := by rw [← hW0]; exact stp _ _
  have hB0 : BlkC W0 w.heap.size 0 (.slice none 0 0) := by rw [← hW0]; exact BlkC.new _ _ _
  obtain ⟨hk1, hk2⟩ := atK_bd (way := way) h2
  have hg0 := h.below hb0
  obtain ⟨k, hk⟩ : ∃ k, atK m way = k := ⟨_, rfl⟩
  rw [hk] at hk1 hk2
  obtain ⟨a1, ns1, hr1⟩ := slice_to h.ns k (by omega) h.cap1
  obtain ⟨a2, ns2, hr2⟩ := slice_from h.ns k (by omega) h.cap1
  have lt1 : (l.take k).length = k := by rw [List.length_take]; omega
  have lt2 : (l.drop k).length = m - k := by rw [List.length_drop]; omega
  have ne1 : l.take k ≠ [] := fun e => by rw [e] at lt1; simp at lt1; omega
  have ne2 : l.drop k ≠ [] := fun e => by rw [e] at lt2; simp at lt2; omega
  have wf1 : WfL (l.take k) := fun x hx => h.wf x (List.mem_of_mem_take hx)
  have wf2 : WfL (l.drop k) := fun x hx => h.wf x (List.mem_of_mem_drop hx)
  have g1 : GIn w a1 cap (l.take k) := ⟨by rw [lt1]; exact ns1, by have := h.cap1; omega, h.cap2, ne1, wf1⟩
  have g2 : GIn w a2 (cap - k) (l.drop k) := ⟨by rw [List.length_drop]; exact ns2, by have := h.cap1; omega, by have := h.cap2; omega, ne2, wf2⟩
  have H1 := hidM (fun W (hb : Below W0.heap.size W0 W) => ih _ _ _ W (by omega) ((g1.below hb0).below hb))
  have H2 := hidM (fun W (hb : Below W0.heap.size W0 W) => ih _ _ _ W (by omega) ((g2.below hb0).below hb))
  rw [lt1] at H1
  rw [lt2] at H2
  have happ := allC_app agg bound.toNat (l.take k) (l.drop k) ne1 ne2
  rw [List.take_append_drop] at happ
  have m1 := allC_may hw ne1 wf1
  have m2 := allC_may hw ne2 wf2
  have HM1 := hidM m1
  have HM2 := hidM m2
  have HAPP := hidM happ
  have H6 := hidM (fun (c d : Cl) v u W (h1 : CS W v c) (h2 : CS W u d) (h3 : WfC c) (h4 : WfC d) (h5 : c.2.length ≤ 32) (h6 : d.2.length ≤ 32) => join_any agg bound v u c d W h1 h2 h3 h4 (by omega) (by omega))
  have H3 := hidM num_any
  have hcap := h.cap1
  have hcap2 := h.cap2
  have HWAY := hidM hway
  rw [hm] at hr1 hr2 hcap
  have HR1 := hidM hr1
  have HR2 := hidM hr2
  have HW0 := hidM hW0
  have NX := hidM (fun W (hb : Below W0.heap.size W0 W) => nxt hb0 hb)
  have HB0 := hidM hB0
  have HLT := hidM hB0.lt
  have HKK := hidM hk
  have HST := hidM hw
  clear happ m1 m2 g1 g2 wf1 wf2 ne1 ne2 lt1 lt2 ns1 ns2 hg0 hB0 hb0 hk h ih hm hway hr1 hr2 hW0
  have hd1 : ((m : Int) == 1) = false := by simp; omega
  generalize allC agg bound.toNat l = R at *
  generalize allC agg bound.toNat (l.take k) = R1 at *
  generalize allC agg bound.toNat (l.drop k) = R2 at *
  obtain ⟨r, e⟩ := R
  obtain ⟨r1, e1⟩ := R1
  obtain ⟨r2, e2⟩ := R2
  simp only at H1 H2 HM1 HM2 HAPP ⊢
  go_enter Try.func25, Try.ntmps25
  go_upto_if 21 with fail
  go_cut [2, 21] from 22 to 23 (fun s2 s21 wx => s2 = .slice a m cap ∧ wx = w.alloc (.cells #[.int .i64 0, .slice none 0 0] 29))
  case first =>
    rcases HCUT.out with ⟨h1, rfl, rfl⟩ | ⟨h1, rfl, hr⟩
    · have h1' : decide ((40 : Int) < m) = false := by simp; omega
      go_wp2
      go_meet
      exact ⟨rfl, rfl⟩
    · have h1' : decide ((40 : Int) < n) = true := by simp; omega
      go_wp2
      go_meet
      exact ⟨rfl, rfl⟩
  case rest =>
  obtain ⟨rfl, rfl⟩ := hcut
  go_upto_region 6 with fail
  go_cut [12] from 39 to 48 (fun s12 wx => s12 = .int .i64 (k : Int) ∧ Hid (Below W0.heap.size W0 wx))
  case first =>
    rcases HWAY.out with rfl | rfl | rfl
    · have e1' : ((m : Int) - 1) = k := by have := HKK.out; unfold atK at this; rw [if_pos rfl] at this; omega
      go_wp2
      go_meet
      exact ⟨rfl, nxt (by rw [HW0.out]; exact Below.refl _ _) (stp _ _)⟩
    · have hk1' : (1 : Nat) = k := by have := HKK.out; unfold atK at this; rw [if_neg (by decide), if_pos rfl] at this; exact this
      subst hk1'
      go_wp2
      go_meet
      exact ⟨rfl, nxt (by rw [HW0.out]; exact Below.refl _ _) (stp _ _)⟩
    · have e1' : ((m : Int) / 2) = k := by have := HKK.out; unfold atK at this; rw [if_neg (by decide), if_neg (by decide)] at this; omega
      go_wp2
      go_meet
      exact ⟨rfl, nxt (by rw [HW0.out]; exact Below.refl _ _) (stp _ _)⟩
  case rest =>
    obtain ⟨rfl, HBX⟩ := hcut
    have hr1 := HR1.out
    have hr2 := HR2.out
    go_upto_region 8 with (go_at_call 25; refine (H1.out _ HBX.out).mono ?_; rintro e W2 ⟨⟨v2, rfl, a3, c3, rfl, ho3⟩, hb2⟩; have hb2' := nxt hb2 (stp W2 (.cells #[.int .i64 r1.1, .slice a3 r1.2.length c3] 29)))
    have H2' := hidM (H2.out _ (nxt HBX.out hb2'))
    go_upto_region 9 with (go_at_call 25; refine H2'.out.mono ?_; rintro e W4 ⟨⟨v4, rfl, a4, c4, rfl, ho4⟩, hb4⟩; have hb4' := nxt hb4 (stp W4 (.cells #[.int .i64 r2.1, .slice a4 r2.2.length c4] 29)))
    have hB1 := (BlkC.new W2 r1.1 (.slice a3 r1.2.length c3)).below hb4'
    have hn1 := (ho3.ns.below (stp W2 (.cells #[.int .i64 r1.1, .slice a3 r1.2.length c3] 29))).below hb4'
    have hB2 := BlkC.new W4 r2.1 (.slice a4 r2.2.length c4)
    have hn2 := ho4.ns.below (stp W4 (.cells #[.int .i64 r2.1, .slice a4 r2.2.length c4] 29))
    have hbz := nxt HBX.out (nxt hb2' hb4')
    have hBr := HB0.out.below hbz
    have HBZ := hidM (NX.out _ hbz)
    have HBZ0 := hidM hbz.size
    generalize hW5 : W4.alloc (.cells #[.int .i64 r2.1, .slice a4 r2.2.length c4] 29) = W5 at *
    have HE := hidM (⟨hB1, hn1, hB2, hn2, hBr⟩ : BlkC W5 W2.heap.size r1.1 (.slice a3 r1.2.length c3) ∧ NS W5 (.slice a3 r1.2.length c3) r1.2 ∧ BlkC W5 W4.heap.size r2.1 (.slice a4 r2.2.length c4) ∧ NS W5 (.slice a4 r2.2.length c4) r2.2 ∧ BlkC W5 w.heap.size 0 (.slice none 0 0))
    obtain ⟨c0, c1, f0, f1⟩ := hBr.cells
    obtain ⟨-, c1', -, f1'⟩ := (hBr.set0 0).cells
    clear hB1 hn1 hB2 hn2 hb2 hb2' hb4 hb4' hbz hBr ho3 ho4 hr1 hr2 hW5
    by_cases he : e1 = 0 ∧ e2 = 0
    · obtain ⟨rfl, rfl⟩ := he
      have hj := HAPP.out.1 (by simp) (by simp)
      have hch1 := HM1.out.1 (by simp)
      have hch2 := HM2.out.1 (by simp)
      rw [← joinR_of hch1 hch2] at hj
      have H6' := hidM (H6.out r1 r2 _ _ W5 ⟨a3, c3, rfl, HE.out.2.1⟩ ⟨a4, c4, rfl, HE.out.2.2.2.1⟩ HM1.out.2.1 HM2.out.2.1 HM1.out.2.2.1 HM2.out.2.2.1)
      rw [← hj] at H6'
      simp only at H6'
      obtain ⟨d0, d1, -, -⟩ := HE.out.1.cells
      obtain ⟨s0, s1, -, -⟩ := HE.out.2.2.1.cells
      clear hj hch1 hch2 c0 c1 f0 f1 c1' f1'
      go_wp2_with (go_at_call 18; refine H6'.out.mono ?_; rintro e W6 ⟨⟨v6, rfl, a6, c6, rfl, ho6⟩, hb6⟩)
      have hbx := nxt hb6 (stp W6 (.cells #[.int .i64 r.1, .slice a6 r.2.length c6] 29))
      have hB1 := HE.out.2.2.2.2.below hbx
      have hB2 := BlkC.new W6 r.1 (.slice a6 r.2.length c6)
      have HO := hidM (ho6.below (stp W6 (.cells #[.int .i64 r.1, .slice a6 r.2.length c6] 29)))
      have HBY := hidM (nxt HBZ.out hbx)
      have HL5 := hidM HE.out.2.2.2.2.lt
      generalize hW7 : W6.alloc (.cells #[.int .i64 r.1, .slice a6 r.2.length c6] 29) = W7 at *
      obtain ⟨c0, c1, f0, f1⟩ := hB1.cells
      obtain ⟨-, c1', -, f1'⟩ := (hB1.set0 r.1).cells
      obtain ⟨d0, d1, -, -⟩ := hB2.cells
      go_region_with (go_at_call 13; refine (H3.out _ _).mono ?_; rintro e w' ⟨rfl, hww⟩; obtain rfl := hww.symm)
      all_goals
        go_wp2
        exact bodyPost_ret (results_cell2 rfl rfl (hB1.drewN 1).set.load) rfl ⟨⟨_, rfl, _, _, rfl, (own_set HO.out (by have := HL5.out; omega) _ _).lower (by have := HL5.out; omega)⟩, below_set (nxt HBY.out (drw _)) (Nat.le_refl _) _ _⟩
    · have hj := HAPP.out.2 (by by_cases h : e1 = 0; exact .inr fun h' => he ⟨h, h'⟩; exact .inl h)
      obtain ⟨hj1, hj2⟩ := hj
      injection hj1 with hj1 hj3
      subst hj1 hj3
      have fin : ∀ z : Int, z = 11 → bodyPost Try.prog Try.f25 (CellR w (0, []) 11) = bodyPost Try.prog Try.f25 (CellR w (0, []) z) := fun z hz => by rw [hz]
      rcases HM1.out.2.2.2.1 with rfl | rfl
      · rcases HM2.out.2.2.2.1 with rfl | rfl
        · exact absurd ⟨rfl, rfl⟩ he
        · clear he hj2
          go_wp2
          exact bodyPost_ret (results_cell2 rfl rfl HE.out.2.2.2.2.set.load) rfl ⟨⟨_, rfl, OwnC.num _ _ _⟩, below_set HBZ.out (Nat.le_refl _) _ _⟩
      · rcases HM2.out.2.2.2.1 with rfl | rfl
        · clear he hj2
          go_wp2
          exact bodyPost_ret (results_cell2 rfl rfl HE.out.2.2.2.2.set.load) rfl ⟨⟨_, rfl, OwnC.num _ _ _⟩, below_set HBZ.out (Nat.le_refl _) _ _⟩
        · clear he hj2
          go_wp2
          exact bodyPost_ret (results_cell2 rfl rfl HE.out.2.2.2.2.set.load) rfl ⟨⟨_, rfl, OwnC.num _ _ _⟩, below_set HBZ.out (Nat.le_refl _) _ _⟩
end Go.Proofs.Ythgfngbgohacaaa
