/- Texts laid together: EBlk, EDo, EList, ERun, ELaw. -/
import Derived.Test.YtkmnpaiippgnmabQ5
import Derived.Test.YtkmnpaiippgnmabQ3
import Derived.Test.YtkmnpaiippgnmabQ4
import Derived.Test.YtkmnpaiippgnmabQ2
/- eval: block and do. -/
namespace Go.Proofs.Ytkmnpaiippgnmab
open Go.RowKit
set_option linter.unusedVariables false
set_option maxRecDepth 100000

/-- What ops tell. -/
def LRes (T : TypeId) (lo : Nat) (x : Rc) (R : Nat) (w : World) (vs vo : Value) (q : Re) (e : Ending) (w' : World) : Prop :=
  (∃ c, q = .err c ∧ c ≠ 0 ∧ e = .returned (.int .i64 c) ∧ Below lo w w') ∨ (∃ s', q = .ok s' ∧ e = .returned (.int .i64 0) ∧ MR T lo x R w vs vo w' s')
theorem LRes.step {T : TypeId} {lo : Nat} {x : Rc} {R : Nat} {w w1 w2 : World} {vs vo vs1 vo1 : Value} {s : St} {q : Re} {e : Ending} (hm : Mach T lo x R w vs vo s) (h : Fr R w vs vo w1 vs1 vo1) (g : LRes T lo x R w1 vs1 vo1 q e w2) : LRes T lo x R w vs vo q e w2 := by
  rcases g with ⟨c, h1, h2, h3, h4⟩ | ⟨s', h1, h2, h3⟩
  · exact .inl ⟨c, h1, h2, h3, (hm.below h).trans h4⟩
  · exact .inr ⟨s', h1, h2, MR.step h h3⟩
/-- What list is to do, by the ops that it is handed. -/
def ListE (B : Nat) (f : Fo) : Prop := ∀ (v : Value) (w : World) (lo : Nat) (x : Rc) (R : Nat) (vs vo : Value) (s : St) (d : Nat) (h fl m l p : Int), FS (QB B) w v f → f.len ≤ 3518437208780 → WfB f → okF f d = true →
  nd f h fl m = some (l, p) → 0 ≤ fl → fl ≤ h → h ≤ m → m ≤ 16 → Mach TE lo x R w vs vo s → Ok h s → s.fu ≤ 2000 → B ≤ lo → x.1.2.size ≤ 64 →
  Calls Try.prog 16 #[.pointer (some ⟨R, 0, none⟩), v] w fun e w' => LRes TE lo x R w vs vo (ev x f s) e w'
/-- Where the turns of a block have come to. -/
structure RK (g : St → Re) (T : TypeId) (lo : Nat) (x : Rc) (R : Nat) (w : World) (vs vo : Value) (b N : Nat) (k n : Int) (v : Value) (h : Int) (s : St) (i : Nat) (wr : World) : Prop where
  mr : ∃ vs' vo' s', (Mach T lo x R wr vs' vo' s' ∧ Fr R w vs vo wr vs' vo') ∧ Ok h s' ∧ i + s'.fu ≤ s.fu ∧ rep g N s = rep g (N - i) s'
  box : BlkO wr b k n v
set_option maxHeartbeats 2000000 in
theorem block_any (B : Nat) (b : Fo) (IH : ListE B b) (k n : Int) (v : Value) (w : World) (lo : Nat) (x : Rc) (R : Nat) (vs vo : Value) (s : St) (d : Nat) (a : Int) (r : List Int) (m p : Int)
    (hf : FS (QB B) w v b) (hl : b.len ≤ 3518437208780) (hwf : WfB b) (hok : okF b d = true) (hs : s.st = a :: r) (hnd : nd b (r.length : Int) (r.length : Int) m = some ((r.length : Int), p)) (h1 : (r.length : Int) ≤ m) (h2 : m ≤ 16)
    (hM : Mach TE lo x R w vs vo s) (hout : s.out.length ≤ 256) (hfu : s.fu ≤ 2000) (hB : B ≤ lo) (hx : x.1.2.size ≤ 64) (hk : k = 28 ∨ k = 29) :
    Calls Try.prog 39 #[.pointer (some ⟨R, 0, none⟩), .agg #[.int .i64 k, .int .i64 n, v]] w fun e w' => LRes TE lo x R w vs vo (rep (ev x b) (often k a) ⟨s.fu, r, s.out⟩) e w' := by
  have hM0 := hM.alloc (.cells #[.int .i64 k, .int .i64 n, v] 33)
  have hbx0 := BlkO.new w k n v
  have Ht := hidM (take_any hM0 hs)
  have HM0 := hidM hM0
  have HM := hidM hM
  have HX0 := hidM hbx0
  have hF0 : Fr R w vs vo (w.alloc (.cells #[.int .i64 k, .int .i64 n, v] 33)) vs vo := (Fr.refl _ _ _ _).alloc _
  have HF0 := hidM hF0
  have HFS := hidM hf
  have Hwf := hidM hwf
  have HIH := hidM IH
  have HND := hidM hnd
  obtain ⟨av, cap, rfl⟩ := hf.val
  have hbl := hM.blk.lt
  have hlw := hM.lw
  clear hM hM0 hbx0 hf hF0 hwf IH hnd
  obtain ⟨N, hN⟩ : ∃ N, often k a = N := ⟨_, rfl⟩
  rw [hN]
  have HNN := hidM hN
  clear hN
  by_cases hb0 : b.len = 0
  · have hbn : b = .nil := Fo.len_nil hb0
    subst hbn
    clear hb0
    simp only [Fo.len] at *
    rw [rep_nil]
    go_enter Try.func39, Try.ntmps39
    go_wp2_with fail
    refine Ht.out.mono ?_
    rintro e w1 ⟨rfl, vs1, vo1, hm1, hf1⟩
    obtain ⟨b0, b1, b2⟩ := (HM0.out.boxO hf1 HX0.out).cells
    have HR : Hid (MR TE lo x R w vs vo w1 ⟨s.fu, r, s.out⟩) := ⟨_, _, hm1, HF0.out.trans hf1⟩
    clear hm1 hf1
    go_wp2
    go_ret
    exact .inr ⟨_, rfl, rfl, HR.out⟩
  · have hbe : ((b.len : Int) == 0) = false := beq_eq_false_iff_ne.2 (by omega)
    have hbp : 1 ≤ b.len := by omega
    clear hb0
    rcases hk with rfl | rfl
    · by_cases ha : a = 0
      · subst ha
        have hz : N = 0 := by rw [← HNN.out]; rfl
        have ht0 : tru false = 0 := rfl
        clear HNN
        go_enter Try.func39, Try.ntmps39
        go_wp2_with fail
        refine Ht.out.mono ?_
        rintro e w1 ⟨rfl, vs1, vo1, hm1, hf1⟩
        have hbx1 := HM0.out.boxO hf1 HX0.out
        obtain ⟨b0, b1, b2⟩ := hbx1.cells
        have HR0 : Hid (RK (ev x b) TE lo x R w vs vo w.heap.size N 28 n (.slice av b.len cap) (r.length : Int) ⟨s.fu, r, s.out⟩ 0 w1) := ⟨⟨_, _, _, ⟨hm1, HF0.out.trans hf1⟩, ⟨rfl, hout⟩, by simp, rfl⟩, hbx1⟩
        clear hm1 hf1 hbx1 Ht
        go_wp2_with (go_at_call 49; refine (bit_any _ _).mono ?_; rintro e w' ⟨rfl, rfl⟩)
        clear b0 b1 b2
        go_loopw [6, 20] (fun _ i wr => ∃ j : Nat, j ≤ N ∧ j ≤ 2000 ∧ i = .int .i64 j ∧ RK (ev x b) TE lo x R w vs vo w.heap.size N 28 n (.slice av b.len cap) (r.length : Int) ⟨s.fu, r, s.out⟩ j wr) (fun _ i _ => N - (intOf i).toNat)
        case atStart => exact ⟨0, by omega, by omega, rfl, HR0.out⟩
        case round =>
          obtain ⟨j, hj, hj2, rfl, hRK⟩ := hrel
          obtain ⟨vs2, vo2, s2, ⟨hm2, hf2⟩, hok2, hju, hrep⟩ := hRK.mr
          obtain ⟨b0, b1, b2⟩ := hRK.box.cells
          have HX2 := hidM hRK.box
          have HM2 := hidM hm2
          have HF2 := hidM hf2
          have HOK := hidM hok2
          have HREP := hidM hrep
          simp only at hju
          clear hRK hok2 hrep
          by_cases hlt : (j : Int) < 0
          · exfalso; omega
          · have hlt' : 0 ≤ (j : Int) := by omega
            have HE : Hid (LRes TE lo x R w vs vo (rep (ev x b) N ⟨s.fu, r, s.out⟩) (.returned (.int .i64 0)) wr) := .inr ⟨s2, by rw [HREP.out, show N - j = 0 by omega]; rfl, rfl, _, _, hm2, hf2⟩
            clear hm2 hf2 b0 b1 b2 hlt
            go_wp2
            go_ret
            exact HE.out
      · have hz : N = 1 := by rw [← HNN.out]; unfold often; rw [if_pos rfl, if_neg ha]
        have hne : (a != 0) = true := by simpa using ha
        have ht1 : tru true = 1 := rfl
        clear HNN
        go_enter Try.func39, Try.ntmps39
        go_wp2_with fail
        refine Ht.out.mono ?_
        rintro e w1 ⟨rfl, vs1, vo1, hm1, hf1⟩
        have hbx1 := HM0.out.boxO hf1 HX0.out
        obtain ⟨b0, b1, b2⟩ := hbx1.cells
        have HR0 : Hid (RK (ev x b) TE lo x R w vs vo w.heap.size N 28 n (.slice av b.len cap) (r.length : Int) ⟨s.fu, r, s.out⟩ 0 w1) := ⟨⟨_, _, _, ⟨hm1, HF0.out.trans hf1⟩, ⟨rfl, hout⟩, by simp, rfl⟩, hbx1⟩
        clear hm1 hf1 hbx1 Ht
        go_wp2_with (go_at_call 49; refine (bit_any _ _).mono ?_; rintro e w' ⟨rfl, rfl⟩)
        clear b0 b1 b2
        go_loopw [6, 20] (fun _ i wr => ∃ j : Nat, j ≤ N ∧ j ≤ 2000 ∧ i = .int .i64 j ∧ RK (ev x b) TE lo x R w vs vo w.heap.size N 28 n (.slice av b.len cap) (r.length : Int) ⟨s.fu, r, s.out⟩ j wr) (fun _ i _ => N - (intOf i).toNat)
        case atStart => exact ⟨0, by omega, by omega, rfl, HR0.out⟩
        case round =>
          obtain ⟨j, hj, hj2, rfl, hRK⟩ := hrel
          obtain ⟨vs2, vo2, s2, ⟨hm2, hf2⟩, hok2, hju, hrep⟩ := hRK.mr
          obtain ⟨b0, b1, b2⟩ := hRK.box.cells
          have HX2 := hidM hRK.box
          have HM2 := hidM hm2
          have HF2 := hidM hf2
          have HOK := hidM hok2
          have HREP := hidM hrep
          simp only at hju
          clear hRK hok2 hrep
          by_cases hlt : (j : Int) < 1
          · have hfs2 := HFS.out.belowB ((HM.out.below hf2).mono hB)
            have hc := HIH.out _ wr lo x R vs2 vo2 s2 d _ _ m _ _ hfs2 hl Hwf.out hok HND.out (by omega) (by omega) h1 h2 hm2 HOK.out (by omega) hB hx
            have HC := hidM hc
            clear hm2 hf2 hc hfs2
            go_wp2_with fail
            refine HC.out.mono ?_
            rintro e w3 hr3
            rcases hr3 with ⟨c, hq, hc0, rfl, hb3⟩ | ⟨s3, hq, rfl, vs3, vo3, hm3, hf3⟩
            · have HE : Hid (LRes TE lo x R w vs vo (rep (ev x b) N ⟨s.fu, r, s.out⟩) (.returned (.int .i64 c)) w3) := .inl ⟨c, by rw [HREP.out, show N - j = (N - j - 1) + 1 by omega, rep_err hq], hc0, rfl, (HM.out.below HF2.out).trans hb3⟩
              have hce : (c == 0) = false := beq_eq_false_iff_ne.2 hc0
              clear hq hc0 hb3 b0 b1 b2
              go_wp2
              go_ret
              exact HE.out
            · have hk3 := ev_keeps x b d _ _ m _ _ s2 s3 hok HND.out (by omega) HOK.out hq
              have HL : Hid (RK (ev x b) TE lo x R w vs vo w.heap.size N 28 n (.slice av b.len cap) (r.length : Int) ⟨s.fu, r, s.out⟩ (j + 1) w3) := ⟨⟨_, _, _, ⟨hm3, HF2.out.trans hf3⟩, hk3.1, by have := hk3.2; simp only; omega, by rw [HREP.out, show N - j = (N - (j + 1)) + 1 by omega, rep_ok hq]⟩, HM2.out.boxO hf3 HX2.out⟩
              have hj3 : j + 1 ≤ N := by omega
              have hj4 : j + 1 ≤ 2000 := by have := hk3.2; omega
              clear hq hm3 hf3 hk3 b0 b1 b2
              go_wp2
              go_roundw
              case rel => exact ⟨j + 1, hj3, hj4, by go_num, HL.out⟩
              case measure => simp [intOf]; omega
          · have hlt' : 1 ≤ (j : Int) := by omega
            have HE : Hid (LRes TE lo x R w vs vo (rep (ev x b) N ⟨s.fu, r, s.out⟩) (.returned (.int .i64 0)) wr) := .inr ⟨s2, by rw [HREP.out, show N - j = 0 by omega]; rfl, rfl, _, _, hm2, hf2⟩
            clear hm2 hf2 b0 b1 b2 hlt
            go_wp2
            go_ret
            exact HE.out
    · have hz : N = a.toNat := by rw [← HNN.out]; rfl
      clear HNN
      go_enter Try.func39, Try.ntmps39
      go_wp2_with fail
      refine Ht.out.mono ?_
      rintro e w1 ⟨rfl, vs1, vo1, hm1, hf1⟩
      have hbx1 := HM0.out.boxO hf1 HX0.out
      obtain ⟨b0, b1, b2⟩ := hbx1.cells
      have HR0 : Hid (RK (ev x b) TE lo x R w vs vo w.heap.size N 29 n (.slice av b.len cap) (r.length : Int) ⟨s.fu, r, s.out⟩ 0 w1) := ⟨⟨_, _, _, ⟨hm1, HF0.out.trans hf1⟩, ⟨rfl, hout⟩, by simp, rfl⟩, hbx1⟩
      clear hm1 hf1 hbx1 Ht
      go_wp2
      clear b0 b1 b2
      go_loopw [6, 20] (fun _ i wr => ∃ j : Nat, j ≤ N ∧ j ≤ 2000 ∧ i = .int .i64 j ∧ RK (ev x b) TE lo x R w vs vo w.heap.size N 29 n (.slice av b.len cap) (r.length : Int) ⟨s.fu, r, s.out⟩ j wr) (fun _ i _ => N - (intOf i).toNat)
      case atStart => exact ⟨0, by omega, by omega, rfl, HR0.out⟩
      case round =>
        obtain ⟨j, hj, hj2, rfl, hRK⟩ := hrel
        obtain ⟨vs2, vo2, s2, ⟨hm2, hf2⟩, hok2, hju, hrep⟩ := hRK.mr
        obtain ⟨b0, b1, b2⟩ := hRK.box.cells
        have HX2 := hidM hRK.box
        have HM2 := hidM hm2
        have HF2 := hidM hf2
        have HOK := hidM hok2
        have HREP := hidM hrep
        simp only at hju
        clear hRK hok2 hrep
        by_cases hlt : (j : Int) < a
        · have hfs2 := HFS.out.belowB ((HM.out.below hf2).mono hB)
          have hc := HIH.out _ wr lo x R vs2 vo2 s2 d _ _ m _ _ hfs2 hl Hwf.out hok HND.out (by omega) (by omega) h1 h2 hm2 HOK.out (by omega) hB hx
          have HC := hidM hc
          clear hm2 hf2 hc hfs2
          go_wp2_with fail
          refine HC.out.mono ?_
          rintro e w3 hr3
          rcases hr3 with ⟨c, hq, hc0, rfl, hb3⟩ | ⟨s3, hq, rfl, vs3, vo3, hm3, hf3⟩
          · have HE : Hid (LRes TE lo x R w vs vo (rep (ev x b) N ⟨s.fu, r, s.out⟩) (.returned (.int .i64 c)) w3) := .inl ⟨c, by rw [HREP.out, show N - j = (N - j - 1) + 1 by omega, rep_err hq], hc0, rfl, (HM.out.below HF2.out).trans hb3⟩
            have hce : (c == 0) = false := beq_eq_false_iff_ne.2 hc0
            clear hq hc0 hb3 b0 b1 b2
            go_wp2
            go_ret
            exact HE.out
          · have hk3 := ev_keeps x b d _ _ m _ _ s2 s3 hok HND.out (by omega) HOK.out hq
            have HL : Hid (RK (ev x b) TE lo x R w vs vo w.heap.size N 29 n (.slice av b.len cap) (r.length : Int) ⟨s.fu, r, s.out⟩ (j + 1) w3) := ⟨⟨_, _, _, ⟨hm3, HF2.out.trans hf3⟩, hk3.1, by have := hk3.2; simp only; omega, by rw [HREP.out, show N - j = (N - (j + 1)) + 1 by omega, rep_ok hq]⟩, HM2.out.boxO hf3 HX2.out⟩
            have hj3 : j + 1 ≤ N := by omega
            have hj4 : j + 1 ≤ 2000 := by have := hk3.2; omega
            clear hq hm3 hf3 hk3 b0 b1 b2
            go_wp2
            go_roundw
            case rel => exact ⟨j + 1, hj3, hj4, by go_num, HL.out⟩
            case measure => simp [intOf]; omega
        · have hlt' : a ≤ (j : Int) := by omega
          have HE : Hid (LRes TE lo x R w vs vo (rep (ev x b) N ⟨s.fu, r, s.out⟩) (.returned (.int .i64 0)) wr) := .inr ⟨s2, by rw [HREP.out, show N - j = 0 by omega]; rfl, rfl, _, _, hm2, hf2⟩
          clear hm2 hf2 b0 b1 b2 hlt
          go_wp2
          go_ret
          exact HE.out
end Go.Proofs.Ytkmnpaiippgnmab
/- eval: do, list, Run. -/
namespace Go.Proofs.Ytkmnpaiippgnmab
open Go.RowKit
set_option linter.unusedVariables false
set_option maxRecDepth 100000

section
variable {lo : Nat} {x : Rc} {R : Nat} {w : World} {vs vo : Value} {s : St}
theorem stp_1 {k n : Int} {g : St → Re} (h : k ≤ 4) : stp x k n g s = .ok ⟨s.fu, gv x k n :: s.st, s.out⟩ := by unfold stp; rw [if_pos h]
theorem stp_2 {k n a b : Int} {r : List Int} {g : St → Re} (h : 5 ≤ k) (h' : k ≤ 17) (hs : s.st = a :: b :: r) : stp x k n g s = .ok ⟨s.fu, of2 k b a :: r, s.out⟩ := by
  unfold stp; rw [if_neg (by omega), if_pos h', hs]; rfl
theorem stp_3 {k n a : Int} {r : List Int} {g : St → Re} (h : 18 ≤ k) (h' : k ≤ 24) (hs : s.st = a :: r) : stp x k n g s = .ok ⟨s.fu, of1 k a :: r, s.out⟩ := by
  unfold stp; rw [if_neg (by omega), if_neg (by omega), if_pos h', hs]; rfl
theorem stp_25 {n a : Int} {r : List Int} {g : St → Re} (hs : s.st = a :: r) : stp x 25 n g s = .ok ⟨s.fu, a :: a :: r, s.out⟩ := by unfold stp; rw [hs]; rfl
theorem stp_26 {n a b : Int} {r : List Int} {g : St → Re} (hs : s.st = a :: b :: r) : stp x 26 n g s = .ok ⟨s.fu, b :: a :: r, s.out⟩ := by unfold stp; rw [hs]; rfl
theorem stp_27 {n a : Int} {r : List Int} {g : St → Re} (hs : s.st = a :: r) : stp x 27 n g s = .ok ⟨s.fu, r, s.out⟩ := by unfold stp; rw [hs]; rfl
theorem stp_B {k n a : Int} {r : List Int} {g : St → Re} (h : k = 28 ∨ k = 29) (hs : s.st = a :: r) : stp x k n g s = rep g (often k a) ⟨s.fu, r, s.out⟩ := by
  unfold stp; rw [if_neg (by omega), if_neg (by omega), if_neg (by omega), if_neg (by omega), if_neg (by omega), if_neg (by omega), if_pos (by omega), hs]; rfl
theorem stp_30 {n a b : Int} {r : List Int} {g : St → Re} (hs : s.st = a :: b :: r) : stp x 30 n g s = if s.out.length = 256 then .err 2 else .ok ⟨s.fu, r, s.out ++ [((b, x.1.2), a)]⟩ := by unfold stp; rw [hs]; rfl
theorem two_of {l : List Int} (h : 2 ≤ (l.length : Int)) : ∃ a b r, l = a :: b :: r := by
  match l, h with
  | a :: b :: r, _ => exact ⟨a, b, r, rfl⟩
  | [a], h => simp at h
  | [], h => simp at h
theorem one_of {l : List Int} (h : 1 ≤ (l.length : Int)) : ∃ a r, l = a :: r := by
  match l, h with
  | a :: r, _ => exact ⟨a, r, rfl⟩
  | [], h => simp at h

theorem do_1 (k n : Int) (a : Option Addr) (c1 c2 : Nat) (h : Mach TE lo x R w vs vo s) (h1 : 1 ≤ k) (h4 : k ≤ 4) (hx : x.1.2.size ≤ 64) (hl : s.st.length ≤ 50) :
    Calls Try.prog 25 #[.pointer (some ⟨R, 0, none⟩), .agg #[.int .i64 k, .int .i64 n, .slice a c1 c2]] w fun e w' => e = .returned (.int .i64 0) ∧ MR TE lo x R w vs vo w' ⟨s.fu, gv x k n :: s.st, s.out⟩ := by
  have h0 := h.alloc (.cells #[.int .i64 k, .int .i64 n, .slice a c1 c2] 33)
  have Hg := hidM (given_any k n (.slice a c1 c2) h0 h1 h4 hx)
  have HF : Hid (Fr R w vs vo (w.alloc (.cells #[.int .i64 k, .int .i64 n, .slice a c1 c2] 33)) vs vo) := (Fr.refl _ _ _ _).alloc _
  generalize gv x k n = z at Hg ⊢
  clear h h0
  go_enter Try.func25, Try.ntmps25
  go_wp2_with fail
  refine Hg.out.mono ?_
  rintro e w1 ⟨rfl, vs1, vo1, hm1, hf1⟩
  have H1 := hidM (put_any z hm1 (by omega))
  have HF1 := hidM (HF.out.trans hf1)
  clear hm1 hf1 Hg
  go_wp2_with fail
  refine H1.out.mono ?_
  rintro e w2 ⟨rfl, hm2⟩
  have HR := hidM (MR.step HF1.out hm2)
  clear hm2
  go_wp2
  go_ret
  exact ⟨rfl, HR.out⟩
theorem do_2 (k n : Int) (v : Value) {a b : Int} {r : List Int} (h : Mach TE lo x R w vs vo s) (h5 : 5 ≤ k) (h17 : k ≤ 17) (hs : s.st = a :: b :: r) (hl : s.st.length ≤ 50) :
    Calls Try.prog 25 #[.pointer (some ⟨R, 0, none⟩), .agg #[.int .i64 k, .int .i64 n, v]] w fun e w' => e = .returned (.int .i64 0) ∧ MR TE lo x R w vs vo w' ⟨s.fu, of2 k b a :: r, s.out⟩ := by
  have h0 := h.alloc (.cells #[.int .i64 k, .int .i64 n, v] 33)
  have Ht := hidM (take_any h0 hs)
  have Ho := hidM (fun W => ofTwo_any k b a W h5 h17)
  have HF : Hid (Fr R w vs vo (w.alloc (.cells #[.int .i64 k, .int .i64 n, v] 33)) vs vo) := (Fr.refl _ _ _ _).alloc _
  have hrl : r.length ≤ 50 := by rw [hs] at hl; simp at hl; omega
  generalize of2 k b a = z at Ho ⊢
  clear h h0 hs hl
  go_enter Try.func25, Try.ntmps25
  go_wp2_with fail
  refine Ht.out.mono ?_
  rintro e w1 ⟨rfl, vs1, vo1, hm1, hf1⟩
  have H1 := hidM (take_any hm1 rfl)
  have HF1 := hidM (HF.out.trans hf1)
  clear hm1 hf1 Ht
  go_wp2_with fail
  refine H1.out.mono ?_
  rintro e w2 ⟨rfl, vs2, vo2, hm2, hf2⟩
  have H2 := hidM (put_any z hm2 (by show r.length ≤ 100; omega))
  have HF2 := hidM (HF1.out.trans hf2)
  clear hm2 hf2 H1
  go_wp2_with fail
  refine (Ho.out _).mono ?_
  rintro e w' ⟨rfl, rfl⟩
  go_wp2_with fail
  refine H2.out.mono ?_
  rintro e w3 ⟨rfl, hm3⟩
  have HR := hidM (MR.step HF2.out hm3)
  clear hm3
  go_wp2
  go_ret
  exact ⟨rfl, HR.out⟩
theorem do_3 (k n : Int) (v : Value) {a : Int} {r : List Int} (h : Mach TE lo x R w vs vo s) (h5 : 18 ≤ k) (h17 : k ≤ 24) (hs : s.st = a :: r) (hl : s.st.length ≤ 50) :
    Calls Try.prog 25 #[.pointer (some ⟨R, 0, none⟩), .agg #[.int .i64 k, .int .i64 n, v]] w fun e w' => e = .returned (.int .i64 0) ∧ MR TE lo x R w vs vo w' ⟨s.fu, of1 k a :: r, s.out⟩ := by
  have h0 := h.alloc (.cells #[.int .i64 k, .int .i64 n, v] 33)
  have Ht := hidM (take_any h0 hs)
  have Ho := hidM (fun W => ofOne_any k a W h5 h17)
  have HF : Hid (Fr R w vs vo (w.alloc (.cells #[.int .i64 k, .int .i64 n, v] 33)) vs vo) := (Fr.refl _ _ _ _).alloc _
  have hrl : r.length ≤ 50 := by rw [hs] at hl; simp at hl; omega
  generalize of1 k a = z at Ho ⊢
  clear h h0 hs hl
  go_enter Try.func25, Try.ntmps25
  go_wp2_with fail
  refine Ht.out.mono ?_
  rintro e w1 ⟨rfl, vs1, vo1, hm1, hf1⟩
  have H2 := hidM (put_any z hm1 (by show r.length ≤ 100; omega))
  have HF2 := hidM (HF.out.trans hf1)
  clear hm1 hf1 Ht
  go_wp2_with fail
  refine (Ho.out _).mono ?_
  rintro e w' ⟨rfl, rfl⟩
  go_wp2_with fail
  refine H2.out.mono ?_
  rintro e w3 ⟨rfl, hm3⟩
  have HR := hidM (MR.step HF2.out hm3)
  clear hm3
  go_wp2
  go_ret
  exact ⟨rfl, HR.out⟩
/-- A move: what it does is handed in. -/
theorem do_m (k n : Int) (v : Value) {s2 : St} (h5 : 25 ≤ k) (h27 : k ≤ 27)
    (Hm : Calls Try.prog 38 #[.pointer (some ⟨R, 0, none⟩), .int .i64 k] (w.alloc (.cells #[.int .i64 k, .int .i64 n, v] 33)) fun e w' => e = .returned (.tuple #[]) ∧ MR TE lo x R (w.alloc (.cells #[.int .i64 k, .int .i64 n, v] 33)) vs vo w' s2) :
    Calls Try.prog 25 #[.pointer (some ⟨R, 0, none⟩), .agg #[.int .i64 k, .int .i64 n, v]] w fun e w' => e = .returned (.int .i64 0) ∧ MR TE lo x R w vs vo w' s2 := by
  have HF : Hid (Fr R w vs vo (w.alloc (.cells #[.int .i64 k, .int .i64 n, v] 33)) vs vo) := (Fr.refl _ _ _ _).alloc _
  have HM := hidM Hm
  clear Hm
  go_enter Try.func25, Try.ntmps25
  go_wp2_with fail
  refine HM.out.mono ?_
  rintro e w1 ⟨rfl, hm1⟩
  have HR := hidM (MR.step HF.out hm1)
  clear hm1
  go_wp2
  go_ret
  exact ⟨rfl, HR.out⟩
theorem do_B (n k : Int) (v : Value) {q : Re} (h5 : k = 28 ∨ k = 29) (h : Mach TE lo x R w vs vo s)
    (Hm : Calls Try.prog 39 #[.pointer (some ⟨R, 0, none⟩), .agg #[.int .i64 k, .int .i64 n, v]] (w.alloc (.cells #[.int .i64 k, .int .i64 n, v] 33)) fun e w' => LRes TE lo x R (w.alloc (.cells #[.int .i64 k, .int .i64 n, v] 33)) vs vo q e w') :
    Calls Try.prog 25 #[.pointer (some ⟨R, 0, none⟩), .agg #[.int .i64 k, .int .i64 n, v]] w fun e w' => LRes TE lo x R w vs vo q e w' := by
  have HF : Hid (Fr R w vs vo (w.alloc (.cells #[.int .i64 k, .int .i64 n, v] 33)) vs vo) := (Fr.refl _ _ _ _).alloc _
  have HM := hidM Hm
  have HH := hidM h
  clear Hm h
  have h28 : 28 ≤ k := by omega
  have h29 : k ≤ 29 := by omega
  clear h5
  go_enter Try.func25, Try.ntmps25
  go_wp2_with fail
  refine HM.out.mono ?_
  rintro e w1 hr
  have HR := hidM (LRes.step HH.out HF.out hr)
  obtain ⟨c, hc⟩ : ∃ c, e = .returned (.int .i64 c) := by
    rcases hr with ⟨c, _, _, h, _⟩ | ⟨_, _, h, _⟩
    · exact ⟨c, h⟩
    · exact ⟨0, h⟩
  subst hc
  clear hr
  go_wp2
  go_ret
  exact HR.out
theorem do_30 (n : Int) (v : Value) {a b : Int} {r : List Int} (h : Mach TE lo x R w vs vo s) (hs : s.st = a :: b :: r) (ho : s.out.length ≤ 256) :
    Calls Try.prog 25 #[.pointer (some ⟨R, 0, none⟩), .agg #[.int .i64 30, .int .i64 n, v]] w fun e w' => LRes TE lo x R w vs vo (if s.out.length = 256 then .err 2 else .ok ⟨s.fu, r, s.out ++ [((b, x.1.2), a)]⟩) e w' := by
  have HF : Hid (Fr R w vs vo (w.alloc (.cells #[.int .i64 30, .int .i64 n, v] 33)) vs vo) := (Fr.refl _ _ _ _).alloc _
  have HM := hidM (emit_any (h.alloc (.cells #[.int .i64 30, .int .i64 n, v] 33)) hs ho)
  have HH := hidM h
  generalize hq : (if s.out.length = 256 then Re.err 2 else .ok ⟨s.fu, r, s.out ++ [((b, x.1.2), a)]⟩) = q
  have HQ := hidM hq
  clear h hs hq
  go_enter Try.func25, Try.ntmps25
  go_wp2_with fail
  refine HM.out.mono ?_
  rintro e w1 hr
  rcases hr with ⟨h1, rfl, hb⟩ | ⟨h1, rfl, hm⟩
  · have HR : Hid (LRes TE lo x R w vs vo q (.returned (.int .i64 2)) w1) := .inl ⟨2, by rw [← HQ.out, if_pos h1], by decide, rfl, (HH.out.below HF.out).trans hb⟩
    clear h1 hb
    go_wp2
    go_ret
    exact HR.out
  · have HR : Hid (LRes TE lo x R w vs vo q (.returned (.int .i64 0)) w1) := .inr ⟨_, by rw [← HQ.out, if_neg h1], rfl, MR.step HF.out hm⟩
    clear h1 hm
    go_wp2
    go_ret
    exact HR.out
end
theorem lres_ok {T : TypeId} {lo : Nat} {x : Rc} {R : Nat} {w w' : World} {vs vo : Value} {q : Re} {s' : St} {e : Ending} (hq : q = .ok s') (h : e = .returned (.int .i64 0) ∧ MR T lo x R w vs vo w' s') : LRes T lo x R w vs vo q e w' := .inr ⟨s', hq, h.1, h.2⟩
/-- One op. -/
theorem do_any (B : Nat) (b : Fo) (IH : ListE B b) (k n : Int) (v : Value) (w : World) (lo : Nat) (x : Rc) (R : Nat) (vs vo : Value) (s : St) (d : Nat) (h fl m m2 : Int)
    (hf : FS (QB B) w v b) (hl : b.len ≤ 3518437208780) (hwf : WfB b) (hal : alone k n b = true) (hok : hasB k = true → okF b d = true) (h0 : 0 ≤ fl) (h1 : fl ≤ h - tk k) (h2 : h - tk k + lv k ≤ 16)
    (hnd : nd b (h - tk k + lv k) (h - tk k + lv k) (max m (h - tk k + lv k)) = some (h - tk k + lv k, m2)) (h3 : h ≤ m) (h4 : m ≤ 16)
    (hM : Mach TE lo x R w vs vo s) (hO : Ok h s) (hfu : s.fu ≤ 2000) (hB : B ≤ lo) (hx : x.1.2.size ≤ 64) :
    Calls Try.prog 25 #[.pointer (some ⟨R, 0, none⟩), .agg #[.int .i64 k, .int .i64 n, v]] w fun e w' => LRes TE lo x R w vs vo (stp x k n (ev x b) s) e w' := by
  have hkb := alone_bd hal
  have hlen := hO.len
  have ht := tk_bd k
  have hlv := lv_bd k
  have hl50 : s.st.length ≤ 50 := by omega
  by_cases a1 : k ≤ 4
  · obtain ⟨a, c, rfl⟩ := hf.val
    exact (do_1 k n a _ c hM hkb.1 a1 hx hl50).mono fun e w' h => lres_ok (stp_1 a1) h
  by_cases a2 : k ≤ 17
  · have e1 : tk k = 2 := by unfold tk; rw [if_neg a1, if_pos a2]
    obtain ⟨a, b', r, hs⟩ := two_of (l := s.st) (by omega)
    exact (do_2 k n v hM (by omega) a2 hs hl50).mono fun e w' h => lres_ok (stp_2 (by omega) a2 hs) h
  by_cases a3 : k ≤ 24
  · have e1 : tk k = 1 := by unfold tk; rw [if_neg a1, if_neg a2, if_pos (by omega)]
    obtain ⟨a, r, hs⟩ := one_of (l := s.st) (by omega)
    exact (do_3 k n v hM (by omega) a3 hs hl50).mono fun e w' h => lres_ok (stp_3 (by omega) a3 hs) h
  have hk : k = 25 ∨ k = 26 ∨ k = 27 ∨ (k = 28 ∨ k = 29) ∨ k = 30 := by omega
  rcases hk with rfl | rfl | rfl | hk | rfl
  · have e1 : tk 25 = 1 := by decide
    obtain ⟨a, r, hs⟩ := one_of (l := s.st) (by omega)
    exact (do_m 25 n v (by decide) (by decide) (move_25 (hM.alloc _) hs hl50)).mono fun e w' h => lres_ok (stp_25 hs) h
  · have e1 : tk 26 = 2 := by decide
    obtain ⟨a, b', r, hs⟩ := two_of (l := s.st) (by omega)
    exact (do_m 26 n v (by decide) (by decide) (move_26 (hM.alloc _) hs hl50)).mono fun e w' h => lres_ok (stp_26 hs) h
  · have e1 : tk 27 = 1 := by decide
    obtain ⟨a, r, hs⟩ := one_of (l := s.st) (by omega)
    exact (do_m 27 n v (by decide) (by decide) (move_27 (hM.alloc _) hs)).mono fun e w' h => lres_ok (stp_27 hs) h
  · have e1 : tk k = 1 ∧ lv k = 0 ∧ hasB k = true := by rcases hk with rfl | rfl <;> decide
    obtain ⟨a, r, hs⟩ := one_of (l := s.st) (by omega)
    have hrl : (r.length : Int) = h - tk k + lv k := by rw [hs] at hlen; simp only [List.length_cons] at hlen; omega
    have hbel : Below B w (w.alloc (.cells #[.int .i64 k, .int .i64 n, v] 33)) := (Below.refl _ _).alloc (by have := hM.lw; have := hM.blk.lt; omega) _
    rw [stp_B hk hs]
    exact do_B n k v hk hM (block_any B b IH k n v _ lo x R vs vo s d a r (max m (h - tk k + lv k)) m2 (hf.belowB hbel) hl hwf (hok e1.2.2) hs (by rw [hrl]; exact hnd) (by omega) (by omega) (hM.alloc _) hO.out hfu hB hx hk)
  · have e1 : tk 30 = 2 := by decide
    obtain ⟨a, b', r, hs⟩ := two_of (l := s.st) (by omega)
    rw [stp_30 hs]
    exact do_30 n v hM hs hO.out
end Go.Proofs.Ytkmnpaiippgnmab
/- eval: list. -/
namespace Go.Proofs.Ytkmnpaiippgnmab
open Go.RowKit
set_option linter.unusedVariables false
set_option maxRecDepth 100000

/-- Where list has come to. -/
structure EK (f : Fo) (d : Nat) (T : TypeId) (lo : Nat) (x : Rc) (R : Nat) (w : World) (vs vo : Value) (s : St) (h fl m l p : Int) (k : Nat) (wr : World) : Prop where
  mr : ∃ vs' vo' s' h' m', (Mach T lo x R wr vs' vo' s' ∧ Fr R w vs vo wr vs' vo') ∧ Ok h' s' ∧ s'.fu ≤ s.fu ∧ ev x f s = ev x (f.drop k) s' ∧ nd (f.drop k) h' fl m' = some (l, p) ∧ fl ≤ h' ∧ h' ≤ m' ∧ m' ≤ 16
theorem err_code (x : Rc) : ∀ (f : Fo) (s : St) (c : Int), ev x f s = .err c → c ≠ 0 := by
  intro f
  induction f with
  | nil => intro s c h; rw [ev] at h; cases h
  | cons k n b r ihb ihr =>
    intro s c h
    by_cases hf : s.fu = 0
    · rw [ev_no hf] at h; injection h with h; omega
    · cases hst : stp x k n (ev x b) ⟨s.fu - 1, s.st, s.out⟩ with
      | ok s1 => rw [ev_ok hf hst] at h; exact ihr _ _ h
      | err c1 =>
        rw [ev_err hf hst] at h
        injection h with h
        subst h
        have hrep : ∀ (i : Nat) (s : St) (c : Int), rep (ev x b) i s = .err c → c ≠ 0 := by
          intro i
          induction i with
          | zero => intro s c h; rw [rep] at h; cases h
          | succ i ih =>
            intro s c h
            cases hg : ev x b s with
            | err c2 => rw [rep_err hg] at h; injection h with h; subst h; exact ihb _ _ hg
            | ok s2 => rw [rep_ok hg] at h; exact ih _ _ h
        unfold stp at hst
        split at hst
        · cases hst
        split at hst
        · cases hst
        split at hst
        · cases hst
        split at hst
        · cases hst
        split at hst
        · cases hst
        split at hst
        · cases hst
        split at hst
        · exact hrep _ _ _ hst
        split at hst
        · injection hst with hst; omega
        · cases hst
set_option maxHeartbeats 2000000 in
theorem list_any (B : Nat) : ∀ (z : Nat) (f : Fo), f.sz ≤ z → ListE B f := by
  intro z
  induction z with
  | zero =>
    intro f hz v w lo x R vs vo s d h fl m l p hf hl hwf hok hnd h0 h1 h2 h3 hM hO hfu hB hx
    obtain rfl : f = .nil := by cases f with
      | nil => rfl
      | cons k n b r => simp [Fo.sz] at hz
    obtain ⟨a, cap, rfl⟩ := hf.val
    have HR : Hid (LRes TE lo x R w vs vo (ev x .nil s) (.returned (.int .i64 0)) w) := .inr ⟨s, rfl, rfl, _, _, hM, Fr.refl _ _ _ _⟩
    simp only [Fo.len]
    generalize ev x .nil s = q at HR ⊢
    clear hz hf hl hwf hok hnd hM hO
    go_enter Try.func16, Try.ntmps16
    go_wp2
    go_loop [10] (fun i => i = .int .i64 0) (fun _ => 0)
    case atStart => exact rfl
    case round =>
      subst hrel
      go_wp2
      go_ret
      exact HR.out
  | succ z ih =>
    intro f hz v w lo x R vs vo s d h fl m l p hf hl hwf hok hnd h0 h1 h2 h3 hM hO hfu hB hx
    rcases hf.shape with ⟨a1, cap, rfl, hfn⟩ | ⟨g, o, cap, rfl, hq, hat⟩
    · subst hfn
      exact ih .nil (by simp [Fo.sz]) _ w lo x R vs vo s d h fl m l p hf hl hwf hok hnd h0 h1 h2 h3 hM hO hfu hB hx
    obtain ⟨n, hn⟩ : ∃ n, f.len = n := ⟨_, rfl⟩
    have hBw : B ≤ w.heap.size := by have := hM.lw; have := hM.blk.lt; omega
    have hstart := hidM (EK.mk (f := f) (d := d) (T := TE) (lo := lo) (x := x) (R := R) (w := w) (vs := vs) (vo := vo) (s := s) (h := h) (fl := fl) (m := m) (l := l) (p := p) (k := 0) ⟨vs, vo, s, h, m, ⟨hM, Fr.refl _ _ _ _⟩, hO, Nat.le_refl _, by cases f <;> rfl, by cases f <;> exact hnd, h1, h2, h3⟩)
    rw [hn] at hl ⊢
    have HN : Hid (f.len = n) := hn
    have HI := hidM ih
    have hgB : g < B := hq
    have Hat := hidM hat
    have Hwf := hidM hwf
    have HSZ := hidM hz
    have HM := hidM hM
    have HOK := hidM hok
    obtain ⟨Q, hQ⟩ : ∃ Q, ev x f s = Q := ⟨_, rfl⟩
    rw [hQ]
    have HQ := hidM hQ
    clear hn ih hat hwf hf hq hz hM hO hnd hok hQ
    go_enter Try.func16, Try.ntmps16
    go_wp2
    go_loopw [6, 7, 10] (fun _ _ i wr => ∃ k : Nat, k ≤ n ∧ i = .int .i64 k ∧ EK f d TE lo x R w vs vo s h fl m l p k wr) (fun _ _ i _ => n - (intOf i).toNat)
    case atStart => exact ⟨0, by omega, rfl, hstart.out⟩
    case round =>
      obtain ⟨k, hk, rfl, hEK⟩ := hrel
      obtain ⟨vs1, vo1, s1, h', m', ⟨hm1, hf1⟩, hO1, hfu1, hev1, hnd1, hh1, hh2, hh3⟩ := hEK.mr
      clear hEK
      by_cases hlt : k < n
      · have hbw := (HM.out.below hf1).mono hB
        have hat' : FoAt (QB B) wr f g o := Hat.out.move (fun b o hq => ⟨hbw.block b hq, hq⟩) (hbw.block g hgB)
        obtain ⟨kk, nn, b, r, sv, e1, e2, e3, c0', c1', c2', hsv⟩ := hat'.at (i := k) (by rw [HN.out]; exact hlt)
        obtain ⟨hb1, hb2⟩ := Hwf.out.at e1
        have hbs := Fo.sz_blk e1
        have hbz : b.sz ≤ z := by have := HSZ.out; omega
        have hLb := HI.out b hbz
        obtain ⟨hal, hbo⟩ := okF_at HOK.out e1
        rw [e1] at hev1 hnd1
        obtain ⟨n1, n2, m2, n3, n4⟩ := nd_cons hnd1
        have hlv := lv_bd kk
        have hbd := nd_bd _ _ _ _ _ _ n3 (Int.le_refl _) (by omega) (by omega)
        obtain ⟨a1, cap1, rfl⟩ := hsv.val
        have hmA := hm1.alloc (.cells #[.int .i64 kk, .int .i64 nn, .slice a1 b.len cap1] 33)
        have hfA : Fr R w vs vo (wr.alloc (.cells #[.int .i64 kk, .int .i64 nn, .slice a1 b.len cap1] 33)) vs1 vo1 := hf1.alloc _
        obtain ⟨⟨_, _, _, d3, _, _⟩, y3, _, _⟩ := hmA.blk.cells
        have hgr : g < wr.heap.size := by have := hm1.lw; have := hm1.blk.lt; omega
        have hRr := hm1.blk.lt
        by_cases hz0 : s1.fu = 0
        · have HE : Hid (LRes TE lo x R w vs vo Q (.returned (.int .i64 10)) (wr.alloc (.cells #[.int .i64 kk, .int .i64 nn, .slice a1 b.len cap1] 33))) := .inl ⟨10, by rw [← HQ.out, hev1, ev_no hz0], by decide, rfl, HM.out.below hfA⟩
          rw [hz0] at d3
          clear hm1 hf1 hO1 hev1 hnd1 hat' e1 e2 e3 hsv hmA hfA n1 n2 n3 n4 hbd hLb hbo hal hb2 hbw
          go_wp2
          go_ret
          exact HE.out
        · obtain ⟨q, hq⟩ : ∃ q, s1.fu = q + 1 := ⟨s1.fu - 1, by omega⟩
          have hst := hm1.fuel q
          have hfB := (hf1.trans hst.2).alloc (.cells #[.int .i64 kk, .int .i64 nn, .slice a1 b.len cap1] 33)
          have hmB := hst.1.alloc (.cells #[.int .i64 kk, .int .i64 nn, .slice a1 b.len cap1] 33)
          have hsvB : FS (QB B) ((wr.setCell ⟨R, 3, none⟩ (.int .i64 (q : Int))).alloc (.cells #[.int .i64 kk, .int .i64 nn, .slice a1 b.len cap1] 33)) (.slice a1 b.len cap1) b := hsv.belowB ((hm1.below (hst.2.alloc _)).mono hB)
          have hdo := do_any B b hLb kk nn (.slice a1 b.len cap1) _ lo x R vs1 vo1 ⟨q, s1.st, s1.out⟩ (d + 1) h' fl m' m2 hsvB hb1 hb2 hal hbo h0 n1 n2 n3 hh2 hh3 hmB ⟨hO1.len, hO1.out⟩ (by show q ≤ 2000; omega) hB hx
          have HDO := hidM hdo
          have HFB := hidM hfB
          have HSB := hidM hmB
          have HEV := hidM hev1
          have HD := hidM e2
          have HO1 := hidM hO1
          have HN1 := hidM n1
          have HN4 := hidM n4
          have HN3 := hidM n3
          have HB5 := hidM (And.intro hal hbo)
          have hd3 : (wr.alloc (.cells #[.int .i64 kk, .int .i64 nn, .slice a1 b.len cap1] 33)).cell? ⟨R, 3, none⟩ = some (.int .i64 ((q : Int) + 1)) := by rw [d3, hq]; rfl
          clear hm1 hf1 hO1 hev1 hnd1 hat' e1 e2 e3 hsv hmA hfA n1 n3 n4 hLb hbo hal hb2 hbw hst hmB hfB hsvB hdo d3
          go_wp2_with fail
          refine HDO.out.mono ?_
          rintro e w3 hr3
          rcases hr3 with ⟨c, hc, hc0, rfl, hb3⟩ | ⟨s3, hc, rfl, vs3, vo3, hm3, hf3⟩
          · have HE : Hid (LRes TE lo x R w vs vo Q (.returned (.int .i64 c)) w3) := .inl ⟨c, by rw [← HQ.out, HEV.out, ev_err (by omega) (by rw [hq]; exact hc)], hc0, rfl, (HM.out.below HFB.out).trans hb3⟩
            have hce : (c == 0) = false := beq_eq_false_iff_ne.2 hc0
            clear hc hc0 hb3
            go_wp2
            go_ret
            exact HE.out
          · have hal := alone_bd HB5.out.1
            have hk3 := stp_keeps (s := ⟨q, s1.st, s1.out⟩) hal.1 hal.2 ⟨HO1.out.len, HO1.out.out⟩ (by have := HN1.out; omega) (fun t t' ht e => by
              cases hb : hasB kk with
              | true => have := ev_keeps x b _ _ _ _ _ _ _ _ (HB5.out.2 hb) HN3.out (by have := HN1.out; omega) ht e; exact ⟨this.1, by omega⟩
              | false =>
                rw [hasB_alone HB5.out.1 hb, ev] at e
                injection e with e
                subst e
                exact ⟨ht, Nat.le_refl _⟩) hc
            have hk4 : s3.fu ≤ q := hk3.2
            have HL : Hid (EK f d TE lo x R w vs vo s h fl m l p (k + 1) w3) := ⟨⟨vs3, vo3, s3, _, m2, ⟨hm3, HFB.out.trans hf3⟩, hk3.1, by omega, by rw [HEV.out, ev_ok (s' := s3) (by omega) (by rw [hq]; exact hc), HD.out], by rw [HD.out]; exact HN4.out, by have := HN1.out; omega, by omega, by omega⟩⟩
            clear hc hm3 hf3 hk3 hal
            go_wp2
            go_roundw
            case rel => exact ⟨k + 1, by omega, by go_num, HL.out⟩
            case measure => simp [intOf]; omega
      · have hlt' : n ≤ k := by omega
        have HE : Hid (LRes TE lo x R w vs vo Q (.returned (.int .i64 0)) wr) := .inr ⟨s1, by rw [← HQ.out, hev1, Fo.drop_all _ _ (by rw [HN.out]; exact hlt')]; rfl, rfl, _, _, hm1, hf1⟩
        clear hm1 hf1 hO1 hev1 hnd1
        go_wp2
        go_ret
        exact HE.out
end Go.Proofs.Ytkmnpaiippgnmab
/- eval: Run. -/
namespace Go.Proofs.Ytkmnpaiippgnmab
open Go.RowKit
set_option linter.unusedVariables false
set_option maxRecDepth 100000

/-- What Run tells: the error, what is left, the records. -/
def runR (f : Fo) (x : Rc) (fu : Int) : Int × Int × List Rc :=
  if cE f ≠ 0 then (cE f, 0, []) else if ¬ (x.1.2.size ≤ 64 ∧ 0 ≤ fu ∧ fu ≤ 2000) then (1, 0, []) else
  match ev x f ⟨fu.toNat, [], []⟩ with
  | .err c => (c, 0, [])
  | .ok s => (0, (s.fu : Int), s.out)
theorem runR_1 {f : Fo} {x : Rc} {fu : Int} (h : cE f ≠ 0) : runR f x fu = (cE f, 0, []) := by unfold runR; rw [if_pos h]
theorem runR_2 {f : Fo} {x : Rc} {fu : Int} (h : cE f = 0) (h2 : ¬ (x.1.2.size ≤ 64 ∧ 0 ≤ fu ∧ fu ≤ 2000)) : runR f x fu = (1, 0, []) := by unfold runR; rw [if_neg (by simp [h]), if_pos h2]
theorem runR_3 {f : Fo} {x : Rc} {q : Nat} {c : Int} (h : cE f = 0) (h2 : x.1.2.size ≤ 64) (h3 : q ≤ 2000) (he : ev x f ⟨q, [], []⟩ = .err c) : runR f x (q : Int) = (c, 0, []) := by
  unfold runR; rw [if_neg (by simp [h]), if_neg (by simp; omega), Int.toNat_natCast, he]
theorem runR_4 {f : Fo} {x : Rc} {q : Nat} {s : St} (h : cE f = 0) (h2 : x.1.2.size ≤ 64) (h3 : q ≤ 2000) (he : ev x f ⟨q, [], []⟩ = .ok s) : runR f x (q : Int) = (0, (s.fu : Int), s.out) := by
  unfold runR; rw [if_neg (by simp [h]), if_neg (by simp; omega), Int.toNat_natCast, he]
def RunR (w : World) (t : Int × Int × List Rc) (e : Ending) (w' : World) : Prop := ∃ v, e = .returned (.tuple #[v, .int .i64 t.2.1, .int .i64 t.1]) ∧ OwnR w' w.heap.size v t.2.2 ∧ Below w.heap.size w w'
theorem row_lower {w : World} {base base' n size : Nat} {e : TypeId} {v : Value} {xs : List Value} (h : w.ownsRow base e size v n xs) (hb : base' ≤ base) : w.ownsRow base' e size v n xs := by
  refine ⟨h.1, ?_⟩
  rcases h.2 with h1 | ⟨g, cap, cur, h1, h2, h3⟩
  · exact .inl h1
  · exact .inr ⟨g, cap, cur, h1, Nat.le_trans hb h2, h3⟩
theorem cE_zero {f : Fo} (h : cE f = 0) : May f ∧ ∃ p, need0 f = some (0, p) := by
  have hc := nE_cases f
  unfold cE at h
  rcases hc with ⟨h1, h2, h3, h4, h5, h6⟩ | ⟨h1, _⟩ | ⟨h1, _⟩
  · rw [h1] at h
    split at h
    · cases h
    · rename_i hn
      have : nL f = 0 := by simp at hn; omega
      rw [this] at h6
      exact ⟨h5, _, h6⟩
  · rw [h1] at h; simp at h
  · rw [h1] at h; simp at h
theorem cE_vals (f : Fo) : cE f = 0 ∨ cE f = 1 ∨ cE f = 9 := by
  unfold cE
  rcases nE_cases f with ⟨h1, _⟩ | ⟨h1, _⟩ | ⟨h1, _⟩ <;> rw [h1] <;> split <;> simp
set_option maxHeartbeats 1000000 in
theorem run_any (f : Fo) (v : Value) (w : World) (x : Rc) (fu : Int) (h : FS QA w v f) (hl : f.len ≤ 3518437208780) (hwf : WfB f) (hxs : x.1.2.size ≤ 140737488351232) :
    Calls Try.prog 7 #[v, .agg #[.int .i64 x.1.1, .string x.1.2, .int .i64 x.2], .int .i64 fu] w fun e w' => RunR w (runR f x fu) e w' := by
  have hB0 := (Below.refl w.heap.size w).alloc (Nat.le_refl _) (.cells #[.int .i64 x.1.1, .string x.1.2, .int .i64 x.2] 40)
  have Hc := hidM (check_any f v _ (h.below hB0) hl hwf)
  have Hf := hidM h
  have Hwf := hidM hwf
  have HB0 := hidM hB0
  obtain ⟨a, cap, rfl⟩ := h.val
  obtain ⟨⟨xa, xb⟩, xv⟩ := x
  simp only at hxs
  obtain ⟨T, hT⟩ : ∃ T, runR f ((xa, xb), xv) fu = T := ⟨_, rfl⟩
  rw [hT]
  have HT := hidM hT
  obtain ⟨C, hC⟩ : ∃ C, cE f = C := ⟨_, rfl⟩
  rw [hC] at Hc
  have HC := hidM hC
  clear h hwf hB0 hT hC
  go_enter Try.func7, Try.ntmps7
  go_wp2_with fail
  refine Hc.out.mono ?_
  rintro e w1 ⟨rfl, hb1⟩
  have hw1 : Below w.heap.size w w1 := HB0.out.trans (hb1.mono (by simp))
  have HW1 := hidM hw1
  obtain ⟨x0, x1, x2⟩ := cell3 (box_kept hb1)
  have hws : w.heap.size < w1.heap.size := by have := hb1.size; simp at this; omega
  clear Hc hb1 hw1
  by_cases hc0 : C = 0
  · subst hc0
    by_cases h1 : 64 < xb.size
    · have HE : Hid (RunR w T (.returned (.tuple #[.slice none 0 0, .int .i64 0, .int .i64 1])) w1) := ⟨_, by rw [← HT.out, runR_2 HC.out (by simp; omega)], by rw [← HT.out, runR_2 HC.out (by simp; omega)]; exact World.ownsRow_nil _ _ _ _, HW1.out⟩
      go_wp2
      go_ret3
      exact HE.out
    have h1' : xb.size ≤ 64 := by omega
    by_cases h2 : fu < 0
    · have HE : Hid (RunR w T (.returned (.tuple #[.slice none 0 0, .int .i64 0, .int .i64 1])) w1) := ⟨_, by rw [← HT.out, runR_2 HC.out (by simp; omega)], by rw [← HT.out, runR_2 HC.out (by simp; omega)]; exact World.ownsRow_nil _ _ _ _, HW1.out⟩
      clear h1
      go_wp2
      go_ret3
      exact HE.out
    have h2' : 0 ≤ fu := by omega
    by_cases h3 : 2000 < fu
    · have HE : Hid (RunR w T (.returned (.tuple #[.slice none 0 0, .int .i64 0, .int .i64 1])) w1) := ⟨_, by rw [← HT.out, runR_2 HC.out (by simp; omega)], by rw [← HT.out, runR_2 HC.out (by simp; omega)]; exact World.ownsRow_nil _ _ _ _, HW1.out⟩
      clear h1 h2
      go_wp2
      go_ret3
      exact HE.out
    have h3' : fu ≤ 2000 := by omega
    obtain ⟨q, rfl⟩ : ∃ q : Nat, fu = q := ⟨fu.toNat, by omega⟩
    obtain ⟨hmay, p, hneed⟩ := cE_zero HC.out
    have hmB : Mach TE w1.heap.size ((xa, xb), xv) w1.heap.size (w1.alloc (.cells #[.int .i64 xa, .string xb, .int .i64 xv, .int .i64 (q : Int), .slice none 0 0, .slice none 0 0] TE)) (.slice none 0 0) (.slice none 0 0) ⟨q, [], []⟩ := ⟨kt_E, Nat.le_refl _, BlkM.new TE w1 ((xa, xb), xv) q _ _, World.ownsRow_nil _ _ _ _, World.ownsRow_nil _ _ _ _⟩
    have hfB : FS (QB w1.heap.size) (w1.alloc (.cells #[.int .i64 xa, .string xb, .int .i64 xv, .int .i64 (q : Int), .slice none 0 0, .slice none 0 0] TE)) (.slice a f.len cap) f := ((Hf.out.below HW1.out).toB).belowB ((Below.refl _ _).alloc (Nat.le_refl _) _)
    have hL := list_any w1.heap.size f.sz f (Nat.le_refl _) _ _ w1.heap.size ((xa, xb), xv) w1.heap.size _ _ ⟨q, [], []⟩ 0 0 0 0 0 p hfB hl Hwf.out hmay.1 hneed (by omega) (by omega) (by omega) (by omega) hmB ⟨rfl, by simp⟩ (by show q ≤ 2000; omega) (Nat.le_refl _) h1'
    have HL := hidM hL
    have HMB := hidM hmB
    clear hL hmB hfB hmay hneed h1 h2 h3
    go_wp2_with fail
    refine HL.out.mono ?_
    rintro e w2 hr
    have hbA : Below w.heap.size w (w1.alloc (.cells #[.int .i64 xa, .string xb, .int .i64 xv, .int .i64 (q : Int), .slice none 0 0, .slice none 0 0] TE)) := HW1.out.alloc (by omega) _
    rcases hr with ⟨c, hq, hc0, rfl, hb3⟩ | ⟨s3, hq, rfl, vs3, vo3, hm3, hf3⟩
    · have hR := runR_3 HC.out h1' (by omega) hq
      rw [HT.out] at hR
      have HE : Hid (RunR w T (.returned (.tuple #[.slice none 0 0, .int .i64 0, .int .i64 c])) w2) := ⟨_, by rw [hR], by rw [hR]; exact World.ownsRow_nil _ _ _ _, hbA.trans (hb3.mono (by omega))⟩
      have hce : (c == 0) = false := beq_eq_false_iff_ne.2 hc0
      clear hq hc0 hb3 hR hbA x0 x1 x2
      go_wp2
      go_ret3
      exact HE.out
    · have hR := runR_4 HC.out h1' (by omega) hq
      rw [HT.out] at hR
      have hb3 := HMB.out.below hf3
      obtain ⟨⟨_, _, _, d3, _, d5⟩, _⟩ := hm3.blk.cells
      have HE : Hid (RunR w T (.returned (.tuple #[vo3, .int .i64 (s3.fu : Int), .int .i64 0])) (w2.drewN 1)) := ⟨vo3, by rw [hR], by rw [hR]; exact row_lower (w := w2.drewN 1) (hm3.drew 1).out (by omega), below_drewN (hbA.trans (hb3.mono (by omega))) 1⟩
      obtain ⟨ao, capo, hvo⟩ := row_val hm3.out
      subst hvo
      clear hq hb3 hR hbA hm3 hf3 x0 x1 x2
      go_wp2
      go_region
      go_wp2
      go_ret3
      exact HE.out
  · have hce : (C == 0) = false := beq_eq_false_iff_ne.2 hc0
    have HE : Hid (RunR w T (.returned (.tuple #[.slice none 0 0, .int .i64 0, .int .i64 C])) w1) := by
      have hR := runR_1 (f := f) (x := ((xa, xb), xv)) (fu := fu) (by rw [HC.out]; exact hc0)
      rw [HT.out, HC.out] at hR
      exact ⟨_, by rw [hR], by rw [hR]; exact World.ownsRow_nil _ _ _ _, HW1.out⟩
    clear hc0 x0 x1 x2
    go_wp2
    go_ret3
    exact HE.out
end Go.Proofs.Ytkmnpaiippgnmab
/- What stage 8's laws call: num, wakes, Heavy; what holds all along a law. -/
namespace Go.Proofs.Ytkmnpaiippgnmab
open Go.RowKit
set_option linter.unusedVariables false
set_option maxRecDepth 100000

theorem num8_any (e : Int) (w : World) : Calls Try.prog 8 #[.int .i64 e] w fun r w' => r = .returned (.int .i64 e) ∧ w' = w := by
  go_enter Try.func8, Try.ntmps8
  go_wp2
  go_ret
  exact ⟨rfl, rfl⟩
/-- Ops that a literal makes. -/
theorem fs_new {W : World} {l : List Ro} {f : Fo} {g cap : Nat} {T : TypeId} {fr : Nat × Nat} (hr : Rows' QA W l f) (hb : W.heap[g]? = some (.cells (flatO l).toArray T fr)) : FS QA W (.slice (some ⟨g, 0, none⟩) l.length cap) f := by
  have hg : g < W.heap.size := (Array.getElem?_eq_some_iff.1 hb).1
  refine ⟨_, cap, by rw [hr.len], .inr ⟨g, 0, rfl, hg, foAt_rows hr fun i x hx => ?_⟩⟩
  obtain ⟨h0, h1, h2⟩ := flatO_get l i x hx
  refine ⟨?_, ?_, ?_⟩
  · simp only [World.cell?, hb, Nat.zero_add]; simpa using h0
  · simp only [World.cell?, hb, Nat.zero_add]; simpa using h1
  · simp only [World.cell?, hb, Nat.zero_add]; simpa using h2
abbrev op0 (k : Int) : Ro := (k, 0, .slice none 0 0)
def wakeF : Fo := .cons 2 0 .nil (.cons 4 0 .nil (.cons 30 0 .nil .nil))
theorem run_wake : runR wakeF ((1, ⟨#[120]⟩), 2) 5 = (0, 2, [((1, ⟨#[120]⟩), 2)]) := by rfl
theorem ev_len {x : Rc} {f : Fo} {q : Nat} {s : St} (hc : cE f = 0) (h : ev x f ⟨q, [], []⟩ = .ok s) : s.out.length ≤ 256 := by
  obtain ⟨hm, p, hn⟩ := cE_zero hc
  exact (ev_keeps x f 0 0 0 0 0 p ⟨q, [], []⟩ s hm.1 hn (by omega) ⟨rfl, by simp⟩ h).1.out
theorem runR_len (f : Fo) (x : Rc) (fu : Int) : (runR f x fu).2.2.length ≤ 256 := by
  by_cases h1 : cE f = 0
  · by_cases h2 : x.1.2.size ≤ 64 ∧ 0 ≤ fu ∧ fu ≤ 2000
    · obtain ⟨q, rfl⟩ : ∃ q : Nat, fu = q := ⟨fu.toNat, by omega⟩
      cases he : ev x f ⟨q, [], []⟩ with
      | err c => rw [runR_3 h1 h2.1 (by omega) he]; simp
      | ok s => rw [runR_4 h1 h2.1 (by omega) he]; exact ev_len h1 he
    · rw [runR_2 h1 h2]; simp
  · rw [runR_1 h1]; simp
set_option maxHeartbeats 800000 in
theorem wakes8_any (w : World) : Calls Try.prog 9 #[] w fun e w' => e = .returned (.bool true) ∧ Below w.heap.size w w' := by
  have Hn := hidM num8_any
  have hB := (Below.refl w.heap.size w).alloc (Nat.le_refl _) (.cells #[.int .i64 2, .int .i64 0, .slice none 0 0, .int .i64 4, .int .i64 0, .slice none 0 0, .int .i64 30, .int .i64 0, .slice none 0 0] 33)
  have hfs : FS QA (w.alloc (.cells #[.int .i64 2, .int .i64 0, .slice none 0 0, .int .i64 4, .int .i64 0, .slice none 0 0, .int .i64 30, .int .i64 0, .slice none 0 0] 33)) (.slice (some ⟨w.heap.size, 0, none⟩) 3 3) wakeF :=
    fs_new (l := [op0 2, op0 4, op0 30]) ⟨rfl, rfl, FS.nil _, rfl, rfl, FS.nil _, rfl, rfl, FS.nil _, trivial⟩ (heap_alloc_new w _)
  have Hc := hidM (run_any wakeF _ _ ((1, ⟨#[120]⟩), 2) 5 hfs (by decide) ⟨by decide, trivial, by decide, trivial, by decide, trivial, trivial⟩ (by decide))
  rw [run_wake] at Hc
  have HB := hidM hB
  clear hfs hB
  go_enter Try.func9, Try.ntmps9
  go_wp2_with fail
  refine Hc.out.mono ?_
  rintro e w1 ⟨v1, rfl, hown, hb1⟩
  have HB2 := hidM (HB.out.trans (hb1.mono (by simp)))
  obtain ⟨g, cap, rfl⟩ := row_succ hown
  have hat := (RS.own hown).at
  obtain ⟨d0, d1, d2⟩ := hat 0 _ rfl
  simp only [Nat.zero_mul, Nat.zero_add] at d0 d1 d2
  have heq := eqR
  have hgd := guardR
  have he' : eqC ((1, ⟨#[120]⟩), 2) ((1, ⟨#[120]⟩), 2) = true := eqC_self _
  clear hb1 hown hat
  go_wp2_with (go_at_call 8; refine (Hn.out _ _).mono ?_; rintro e w' ⟨rfl, rfl⟩)
  go_ret
  exact ⟨rfl, HB2.out⟩
/-- All along the law: the ask's box, and nothing that was there has turned. -/
structure AskE (vs vl vr vf : Value) (l : List ByteArray) (f : Fo) (lr : List Rc) (lf : List Int) (w wr : World) : Prop where
  bel : Below (w.alloc (.cells #[vs, vl, vr, vf] 29)).heap.size (w.alloc (.cells #[vs, vl, vr, vf] 29)) wr
  inn : In8 wr vs vl vr vf l f lr lf
theorem In8.below {W W' : World} {vs vl vr vf : Value} {l : List ByteArray} {f : Fo} {lr : List Rc} {lf : List Int} (h : In8 W vs vl vr vf l f lr lf) (hb : Below W.heap.size W W') : In8 W' vs vl vr vf l f lr lf :=
  ⟨⟨h.s.1.below hb, h.s.2⟩, ⟨h.f.1.below hb, h.f.2⟩, ⟨h.r.1.below hb, h.r.2⟩, ⟨h.n.1.below hb, h.n.2⟩⟩
theorem AskE.start {w : World} {vs vl vr vf : Value} {l : List ByteArray} {f : Fo} {lr : List Rc} {lf : List Int} (h : In8 w vs vl vr vf l f lr lf) : AskE vs vl vr vf l f lr lf w (w.alloc (.cells #[vs, vl, vr, vf] 29)) :=
  ⟨Below.refl _ _, h.below ((Below.refl w.heap.size w).alloc (Nat.le_refl _) _)⟩
theorem AskE.call {w wr w' : World} {vs vl vr vf : Value} {l : List ByteArray} {f : Fo} {lr : List Rc} {lf : List Int} (h : AskE vs vl vr vf l f lr lf w wr) (hb : Below wr.heap.size wr w') : AskE vs vl vr vf l f lr lf w w' :=
  ⟨h.bel.trans (hb.mono h.bel.size), h.inn.below hb⟩
theorem AskE.out {w wr : World} {vs vl vr vf : Value} {l : List ByteArray} {f : Fo} {lr : List Rc} {lf : List Int} (h : AskE vs vl vr vf l f lr lf w wr) : Below w.heap.size w wr :=
  ((Below.refl w.heap.size w).alloc (Nat.le_refl _) _).trans (h.bel.mono (by simp))
theorem AskE.lt {w wr : World} {vs vl vr vf : Value} {l : List ByteArray} {f : Fo} {lr : List Rc} {lf : List Int} (h : AskE vs vl vr vf l f lr lf w wr) : w.heap.size < wr.heap.size := by
  have := h.bel.size
  simp at this
  omega
theorem AskE.cells {w wr : World} {vs vl vr vf : Value} {l : List ByteArray} {f : Fo} {lr : List Rc} {lf : List Int} (h : AskE vs vl vr vf l f lr lf w wr) : wr.cell? ⟨w.heap.size, 0, none⟩ = some vs ∧ wr.cell? ⟨w.heap.size, 1, none⟩ = some vl ∧ wr.cell? ⟨w.heap.size, 2, none⟩ = some vr ∧ wr.cell? ⟨w.heap.size, 3, none⟩ = some vf := by
  have e := h.bel.block w.heap.size (by simp)
  have hn : (w.alloc (.cells #[vs, vl, vr, vf] 29)).heap[w.heap.size]? = some (.cells #[vs, vl, vr, vf] 29 (0, 0)) := heap_alloc_new w _
  rw [hn] at e
  refine ⟨?_, ?_, ?_, ?_⟩ <;> simp [World.cell?, e]
theorem heavy8_any (vs vl vr vf : Value) (l : List ByteArray) (f : Fo) (lr : List Rc) (lf : List Int) (w : World) (h : In8 w vs vl vr vf l f lr lf) :
    Calls Try.prog 10 #[.agg #[vs, vl, vr, vf]] w fun e w' => HeavyR e ∧ Below w.heap.size w w' := by
  have hA := AskE.start h
  have Hh := hidM (heavy_any vs vl l f _ hA.inn.s hA.inn.f)
  have HA := hidM hA
  obtain ⟨a, cap, hvs, _⟩ := h.s.1
  obtain ⟨a', cap', hvl⟩ := h.f.1.val
  obtain ⟨ar, capr, hvr, _⟩ := h.r.1
  obtain ⟨af, capf, hvf, _⟩ := h.n.1
  subst hvs hvl hvr hvf
  clear h hA
  go_enter Try.func10, Try.ntmps10
  go_wp2_with fail
  refine Hh.out.mono ?_
  rintro e w1 ⟨⟨r, rfl⟩, hb1⟩
  have hA1 := HA.out.call hb1
  have HA1 := hidM hA1
  obtain ⟨c0, c1, c2, c3⟩ := hA1.cells
  have Hw := hidM (rweight_any _ lr w1 hA1.inn.r.1 hA1.inn.r.2.1 hA1.inn.r.2.2)
  clear hA1 hb1 Hh
  cases r with
  | true =>
    go_wp2
    go_ret
    exact ⟨⟨_, rfl⟩, HA1.out.out⟩
  | false =>
    go_wp2_with fail
    refine Hw.out.mono ?_
    rintro e w2 ⟨⟨z, rfl, hz⟩, rfl⟩
    go_wp2
    all_goals
      go_ret
      exact ⟨⟨_, rfl⟩, HA1.out.out⟩
end Go.Proofs.Ytkmnpaiippgnmab
