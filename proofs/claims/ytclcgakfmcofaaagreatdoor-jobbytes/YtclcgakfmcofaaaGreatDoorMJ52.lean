/- thresherlaw14.JobBytes: its walk. -/
import Derived.Test.YtclcgakfmcofaaaGreatDoorMJ49
import Derived.Test.YtclcgakfmcofaaaGreatDoorMJ50
import Derived.Test.YtclcgakfmcofaaaGreatDoorMJ51
namespace Go.Proofs.YtclcgakfmcofaaaGreatDoor
open Go.RowKit
set_option linter.unusedVariables false
set_option maxRecDepth 100000

/-- What stays through the law. -/
structure L14 (w W0 : World) (c : Cfg) (vp vl vj : Value) (L : List Jl) (x : ByteArray) : Prop where
  ask : ∀ W, Below W0.heap.size W0 W → A14 w W c vp vl vj x
  js : ∀ W, Below W0.heap.size W0 W → JS W vj L
  cfg : ∀ W, Below W0.heap.size W0 W → InC W c vp
  env : ∀ W, Below W0.heap.size W0 W → Env W
  hal : ∀ W, Below W0.heap.size W0 W → Halves W
  low : Below w.heap.size w W0
  pos : 0 < W0.heap.size
theorem L14.start {w : World} {c : Cfg} {vp vl vj : Value} {ids : List Int} {L : List Jl} {x : ByteArray} (h : In14 w c vp vl vj ids L x) (hE : Env w) (hH : Halves w) : L14 w (w.alloc (askO14 c vp vl vj x)) c vp vl vj L x := by
  have hb0 := stJ w (askO14 c vp vl vj x)
  exact ⟨A14.start w c vp vl vj x, fun W hW => (h.js.below hb0).below hW, fun W hW => (h.s.cfg.below hb0).below hW, fun W hW => (hE.low hb0).low hW, fun W hW => (hH.below hb0 hH.pos).below hW (by have := hH.pos; have := hb0.size; omega), hb0, by have := hH.pos; have := hb0.size; omega⟩
/-- A job's cells. -/
structure JC (W : World) (b o : Nat) (y : Jl) (ua : Option Addr) (uc : Nat) : Prop where
  c0 : W.cell? ⟨b, o, none⟩ = some (.int .i64 y.1.id)
  c1 : W.cell? ⟨b, o + 1, none⟩ = some (.string y.1.prog)
  c2 : W.cell? ⟨b, o + 2, none⟩ = some (.int .i64 y.1.agg)
  c3 : W.cell? ⟨b, o + 3, none⟩ = some (.int .i64 y.1.bound)
  c4 : W.cell? ⟨b, o + 4, none⟩ = some (.int .i64 y.1.fuel)
  c5 : W.cell? ⟨b, o + 5, none⟩ = some (.slice ua y.2.length uc)
  c6 : W.cell? ⟨b, o + 6, none⟩ = some (.int .i64 y.1.parts)
theorem JC.at {W : World} {b off i : Nat} {L : List Jl} {y : Jl} (h : JbsAt W b off L) (hy : L[i]? = some y) (hb : b < W.heap.size) : ∃ ua uc, ∀ W', Below W.heap.size W W' → JC W' b (off + i * 7) y ua uc ∧ NS W' (.slice ua y.2.length uc) y.2 := by
  obtain ⟨ua, uc, c0, c1, c2, c3, c4, c5, c6, hn⟩ := h i y hy
  exact ⟨ua, uc, fun W' hW => ⟨⟨(hW.cell (p := ⟨b, _, none⟩) hb).trans c0, (hW.cell (p := ⟨b, _, none⟩) hb).trans c1, (hW.cell (p := ⟨b, _, none⟩) hb).trans c2, (hW.cell (p := ⟨b, _, none⟩) hb).trans c3, (hW.cell (p := ⟨b, _, none⟩) hb).trans c4, (hW.cell (p := ⟨b, _, none⟩) hb).trans c5, (hW.cell (p := ⟨b, _, none⟩) hb).trans c6⟩, hn.below hW⟩⟩
/-- Texts so far, no longer than this. -/
def TxB (T : List ByteArray) (n : Nat) : Prop := T.length ≤ n ∧ ∀ t ∈ T, t.size ≤ 10000
theorem TxB.app {T m : List ByteArray} {n k : Nat} (h : TxB T n) (hm : ∀ t ∈ m, t.size ≤ 10000) (hk : m.length ≤ k) : TxB (T ++ m) (n + k) := ⟨by rw [List.length_append]; have := h.1; omega, fun t ht => by
  rcases List.mem_append.1 ht with ht | ht
  · exact h.2 t ht
  · exact hm t ht⟩
theorem jTake_len (s : ByteArray) : (jTake s).1.2.length ≤ 6 := by
  obtain ⟨a, p, g, b, f, z, k, q, ha, hp, hg, hb, hf, hz, hk, hq, hE⟩ := jtake_e s
  have h1 : k.1.length = z.1.toNat := by rw [hk, jrK_len]; simp
  have h2 : z.1 ≤ 6 := by
    rw [hz]; unfold jrZ
    split
    · rename_i h; exact h.2
    · show (0 : Int) ≤ 6; decide
  rw [hE]; unfold jEnd
  split
  · simp
  · split
    · simp
    · simp only; omega
set_option maxHeartbeats 8000000 in
theorem lawjb (c : Cfg) (vp vl vj : Value) (ids : List Int) (L : List Jl) (x : ByteArray) (w : World) (h : In14 w c vp vl vj ids L x) (hE : Env w) (hH : Halves w) :
    Calls Tryz.prog 3 #[askV14 c vp vl vj x] w (BoolR w true) := by
  have hL := L14.start h hE hH
  obtain ⟨W0, hW0⟩ : ∃ W0 : World, W0 = w.alloc (askO14 c vp vl vj x) := ⟨_, rfl⟩
  rw [← hW0] at hL
  have H14 := hidM hL
  have HH1 := hidM (heavy14_any c vp vl vj ids L x W0 (h.below hL.low))
  have HWF := hidM h.wf
  obtain ⟨ja, jc, rfl, -⟩ := h.jcap
  obtain ⟨sa, sc, rfl, -⟩ := h.s.cap
  obtain ⟨la, lc, rfl, -⟩ := h.s.lcap
  have HW := hidM hW0.symm
  have HRF := hidM (Below.refl W0.heap.size W0)
  have HN := hidM num14_any
  clear hW0 hL h hE hH
  obtain ⟨a0, a1, a2, a3, a4, a5, a6⟩ := H14.out.ask W0 HRF.out
  go_enter Tryz.func3, Tryz.ntmps3
  go_wp2_with fail
  rw [HW.out]
  refine HH1.out.mono ?_
  rintro e W1 ⟨⟨r, rfl, hr⟩, hb1⟩
  have HB1 := hidM hb1
  have HRr := hidM hr
  clear a0 a1 a2 a3 a4 a5 a6 hb1 hr
  cases r with
  | true =>
    go_wp2
    go_ret
    exact ⟨rfl, nxt H14.out.low HB1.out⟩
  | false =>
    have hS := HRr.out rfl
    have HS := hidM hS
    have hx8 := hS.x
    obtain ⟨a0, a1, a2, a3, a4, a5, a6⟩ := H14.out.ask W1 HB1.out
    have HT0 := hidM (show OwnS (W1.alloc (.cells #[.string x] 9)) W0.heap.size (.slice (some ⟨W1.heap.size, 0, none⟩) 1 1) [x] from own_lit (l := [x]) rfl HB1.out.size (by simp))
    have HBT := hidM (nxt HB1.out (stJ W1 (.cells #[.string x] 9)))
    clear hS
    go_wp2
    clear a0 a1 a2 a3 a4 a5 a6
    go_loopw [3, 4] (fun u i wr => ∃ (k : Nat) (T : List ByteArray), k ≤ 6 ∧ i = .int .i64 k ∧ OwnS wr W0.heap.size u T ∧ Hid (TxB T (1 + 2000 * k)) ∧ Below W0.heap.size W0 wr) (fun _ i _ => 6 - (intOf i).toNat)
    case atStart => exact ⟨0, [x], by omega, rfl, HT0.out, hidM ⟨by simp, fun t ht => by simp at ht; subst ht; omega⟩, HBT.out⟩
    case round =>
      rename World => w0
      obtain ⟨k, T, hk, rfl, hown, HTL, hbel⟩ := hrel
      have HBEL := hidM hbel
      have HOWN := hidM hown
      obtain ⟨a0, a1, a2, a3, a4, a5, a6⟩ := H14.out.ask w0 hbel
      obtain ⟨ta, tc, rfl⟩ := hown.shape
      by_cases hgo : k < L.length ∧ k < 6
      · obtain ⟨hlt, hk6⟩ := hgo
        obtain ⟨y, hy⟩ := getSome hlt
        have hwy := HWF.out y (List.mem_of_getElem? hy)
        have hys := HS.out.jobs y (List.mem_of_getElem? hy)
        obtain ⟨a', c', e', hsh⟩ := H14.out.js W0 HRF.out
        obtain rfl : a' = ja := by injection e' with e1; exact e1.symm
        rcases hsh with hnil | ⟨b, off, rfl, hb, hat⟩
        · rw [hnil] at hlt; simp at hlt
        obtain ⟨ua, uc, hJC⟩ := JC.at hat hy hb
        have HJC := hidM hJC
        have HIJ := hidM (fun (W : World) (hW : Below W0.heap.size W0 W) => hwy.inJ (hJC W hW).2 (by omega) (by omega))
        have hki : (k : Int) < (L.length : Int) := by omega
        have hk0 : (0 : Int) ≤ (k : Int) := by omega
        have hk6i : (k : Int) < 6 := by omega
        have hk6d : decide ((k : Int) < 6) = true := decide_eq_true hk6i
        have hk6e : decide (k < 6) = true := decide_eq_true hk6
        obtain ⟨j, l⟩ := y
        simp only at HJC HIJ hys
        obtain ⟨c0, c1, c2, c3, c4, c5, c6⟩ := (HJC.out w0 HBEL.out).1
        have HBY := hidM (jbytes_any j (.slice ua l.length uc) l w0 (HIJ.out w0 HBEL.out))
        have HRJ := hidM (fun (W : World) (hW : Below W0.heap.size W0 W) => rjob_any j (.slice ua l.length uc) l W (HIJ.out W hW).ns (by omega))
        have HCH := hidM (fun (W : World) (hW : Below W0.heap.size W0 W) => jcheck_any j (.slice ua l.length uc) l W (HIJ.out W hW).ns (by omega))
        have HTK := hidM (fun (W : World) (s : ByteArray) (hs : s.size ≤ 100000) => jtake_any s W hs)
        unfold byRes at HBY
        clear hat hy hwy e' hJC hown hbel hb
        cases hjb : jobB j l with
        | false =>
          rw [hjb] at HBY HRJ HCH
          simp only [Bool.false_eq_true, if_false] at HBY
          go_wp2_with fail
          refine HBY.out.mono ?_
          rintro e W2 ⟨rfl, hb2⟩
          obtain ⟨d0, d1, d2, d3, d4, d5, d6⟩ := (HJC.out W2 (nxt HBEL.out hb2)).1
          obtain ⟨a0, a1, a2, a3, a4, a5, a6⟩ := H14.out.ask W2 (nxt HBEL.out hb2)
          have HB2 := hidM hb2
          clear hb2 c0 c1 c2 c3 c4 c5 c6
          go_wp2_with fail
          refine (HRJ.out W2 (nxt HBEL.out HB2.out)).mono ?_
          rintro e W3 ⟨rfl, hb3⟩
          have HB3 := hidM (nxt HB2.out hb3)
          obtain ⟨d0, d1, d2, d3, d4, d5, d6⟩ := (HJC.out W3 (nxt HBEL.out HB3.out)).1
          obtain ⟨a0, a1, a2, a3, a4, a5, a6⟩ := H14.out.ask W3 (nxt HBEL.out HB3.out)
          clear hb3
          go_wp2_with fail
          refine (HCH.out W3 (nxt HBEL.out HB3.out)).mono ?_
          rintro e W4 ⟨rfl, hb4⟩
          have HB4 := hidM (nxt HB3.out hb4)
          rw [show errC false = 1 from rfl]
          clear hb4
          have HT4 := hidM (HTK.out W4 ⟨#[]⟩ (by decide))
          go_wp2_with (first
            | (go_at_call 10; refine (HN.out _ _).mono ?_; rintro e W9 ⟨rfl, hw9⟩; subst W9))
          refine HT4.out.mono ?_
          rintro e W5 ⟨⟨v5, rfl, ho5⟩, hb5⟩
          generalize jTake ⟨#[]⟩ = R at ho5 ⊢
          obtain ⟨⟨j5, l5⟩, e5⟩ := R
          simp only at ho5 ⊢
          have HB5 := hidM (nxt HBEL.out (nxt HB4.out hb5))
          have HOW5 := hidM (HOWN.out.below (nxt HB4.out hb5))
          have HB5b := hidM (nxt HB5.out (stJ W5 (jobO j5 v5)))
          have HO5b := hidM (HOW5.out.below (stJ W5 (jobO j5 v5)))
          obtain ⟨o5, oc5, rfl⟩ := ho5.shape
          clear ho5 hb5
          go_wp2
          go_quiet (fail)
          go_wp2
          go_roundw
          case rel => exact ⟨k + 1, T, by omega, by go_num, HO5b.out.below (below_drewN (Below.refl _ _) _), hidM ⟨by have := HTL.out.1; omega, HTL.out.2⟩, below_drewN HB5b.out _⟩
          case measure => simp [intOf]; omega
        | true =>
          have hJ := jobB_of hjb
          have hwant := jobBy_size hJ
          have HRB := hidM (fun (W : World) (hW : Below W0.heap.size W0 W) => rjbytes_any j (.slice ua l.length uc) l W (HIJ.out W hW) hJ.len.2 hJ.prog)
          have HJT := hidM (jTake_bytes hJ)
          rw [hjb] at HBY HRJ HCH
          simp only [if_true] at HBY
          obtain ⟨want, hw⟩ : ∃ want, want = jobBy j l := ⟨_, rfl⟩
          rw [← hw] at HBY HRB HJT hwant
          have HJE := hidM (show ∀ (W : World) (v u : Value), NS W v l → NS W u l → Calls Tryz.prog 13 #[jobV j v, jobV j u] W (fun e w' => e = .returned (.bool true) ∧ Below W.heap.size W w') from fun W v u hv hu => eqjob_any j l v u W hv hu (by omega))
          have hl6 := hJ.len.2
          clear hJ hw
          go_wp2_with fail
          refine HBY.out.mono ?_
          rintro e W2 ⟨rfl, hb2⟩
          obtain ⟨d0, d1, d2, d3, d4, d5, d6⟩ := (HJC.out W2 (nxt HBEL.out hb2)).1
          obtain ⟨a0, a1, a2, a3, a4, a5, a6⟩ := H14.out.ask W2 (nxt HBEL.out hb2)
          have HB2 := hidM hb2
          clear hb2 c0 c1 c2 c3 c4 c5 c6
          go_wp2_with fail
          refine (HRJ.out W2 (nxt HBEL.out HB2.out)).mono ?_
          rintro e W3 ⟨rfl, hb3⟩
          have HB3 := hidM (nxt HB2.out hb3)
          obtain ⟨d0, d1, d2, d3, d4, d5, d6⟩ := (HJC.out W3 (nxt HBEL.out HB3.out)).1
          obtain ⟨a0, a1, a2, a3, a4, a5, a6⟩ := H14.out.ask W3 (nxt HBEL.out HB3.out)
          clear hb3
          go_wp2_with fail
          refine (HRB.out W3 (nxt HBEL.out HB3.out)).mono ?_
          rintro e W4 ⟨rfl, hb4⟩
          have HB4 := hidM (nxt HB3.out hb4)
          clear hb4
          have hadd : ∀ W, (Op.stringOp .add want ⟨#[120]⟩).run Tryz.prog W = .ok (.string (want ++ ⟨#[120]⟩)) W := fun W => run_string_add_sum W _ _ (by have : (⟨#[120]⟩ : ByteArray).size = 1 := rfl; omega)
          have hws : (want ++ ⟨#[120]⟩ : ByteArray).size ≤ 1001 := by rw [ByteArray.size_append]; have : (⟨#[120]⟩ : ByteArray).size = 1 := rfl; omega
          obtain ⟨wx, hwx⟩ : ∃ wx : ByteArray, wx = want ++ ⟨#[120]⟩ := ⟨_, rfl⟩
          rw [← hwx] at hadd hws
          have hT2 := HTL.out.app (m := [want, wx]) (k := 2) (fun t ht => by simp at ht; rcases ht with rfl | rfl <;> omega) (by simp)
          obtain ⟨v5, W5, u1, u2, u3⟩ := push_strs (m := [want, wx]) (cur := #[.string want, .string wx]) (HOWN.out.below HB4.out) rfl (by have := HTL.out.1; simp; omega) (nxt HBEL.out HB4.out).size
          have hb5 := (nxt HBEL.out HB4.out).trans u3
          obtain ⟨T2, hTe⟩ : ∃ T2, T2 = T ++ [want, wx] := ⟨_, rfl⟩
          rw [← hTe] at u2 hT2
          have HT2 := hidM hT2
          have U1 := hidM u1
          have HO5 := hidM u2
          have HB5 := hidM hb5
          have HB45 := hidM u3
          obtain ⟨o5, oc5, rfl⟩ := u2.shape
          clear u1 u2 u3 hb5 hT2 hTe hwx
          go_wp2_with (first
            | (at_builtin; refine wpList_append_run _ rfl _ _ _ rfl _ _ _ W5 rfl rfl U1.out ?_))
          clear hadd
          go_loopw [3, 9] (fun u i wr => ∃ (kk : Nat) (T3 : List ByteArray), kk ≤ 1200 ∧ i = .int .i64 kk ∧ OwnS wr W0.heap.size u T3 ∧ Hid (TxB T3 (1 + 2000 * k + 2 + kk)) ∧ Below W0.heap.size W0 wr) (fun _ i _ => 1300 - (intOf i).toNat)
          case atStart => exact ⟨0, T2, by omega, rfl, HO5.out, HT2, HB5.out⟩
          case round =>
            rename World => w7
            obtain ⟨kk, T3, hkk, rfl, hown3, HT3, hbel7⟩ := hrel
            have HB7 := hidM hbel7
            have HO7 := hidM hown3
            have hT3l := HT3.out.1
            obtain ⟨o7, oc7, rfl⟩ := hown3.shape
            clear hown3
            by_cases hin : kk < want.size
            · have hini : (kk : Int) < (want.size : Int) := by omega
              have hkk0 : (0 : Int) ≤ (kk : Int) := by omega
              have hkkle : (kk : Int) ≤ (want.size : Int) := by omega
              obtain ⟨tx, htx⟩ : ∃ tx : ByteArray, tx = want.extract 0 kk := ⟨_, rfl⟩
              have htxs : tx.size ≤ 10000 := by rw [htx, ByteArray.size_extract]; omega
              obtain ⟨v8, W8, u1, u2, u3⟩ := push_strs (m := [tx]) (cur := #[.string tx]) HO7.out rfl (by simp; omega) hbel7.size
              have hT4 := HT3.out.app (m := [tx]) (k := 1) (fun t ht => by simp at ht; subst ht; exact htxs) (by simp)
              obtain ⟨T4, hTe⟩ : ∃ T4, T4 = T3 ++ [tx] := ⟨_, rfl⟩
              rw [← hTe] at u2 hT4
              obtain ⟨m, hm⟩ : ∃ m : Nat, m = want.size / 9 := ⟨_, rfl⟩
              have hm9 : m ≤ 112 := by omega
              have hq : ((want.size : Int)).tdiv 9 = (m : Int) := by rw [hm]; rfl
              have hq2 : ((want.size : Int)) / 9 = (m : Int) := by omega
              have U1 := hidM u1
              have HO8 := hidM u2
              have HT4 := hidM hT4
              have HB8 := hidM (hbel7.trans u3)
              rw [htx] at U1
              clear u1 u2 u3 hT4 hTe htx htxs hbel7 hm
              go_wp2_with (first
                | (at_builtin; refine wpList_append_run _ rfl _ _ _ rfl _ _ _ W8 rfl rfl U1.out ?_))
              go_roundw
              case rel => exact ⟨kk + 1 + m, T4, by omega, by go_num, HO8.out, hidM ⟨by have := HT4.out.1; omega, HT4.out.2⟩, HB8.out⟩
              case measure => simp [intOf]; omega
            · have hini : ¬ (kk : Int) < (want.size : Int) := by omega
              obtain ⟨d0, d1, d2, d3, d4, d5, d6⟩ := (HJC.out w7 HB7.out).1
              obtain ⟨a0, a1, a2, a3, a4, a5, a6⟩ := H14.out.ask w7 HB7.out
              have HT2k := hidM (show TxB T3 (1 + 2000 * (k + 1)) from ⟨by have := HT3.out.1; omega, HT3.out.2⟩)
              clear hbel7 HT3 hT3l
              go_wp2_with fail
              refine (HCH.out w7 HB7.out).mono ?_
              rintro e W8 ⟨rfl, hb8⟩
              have HB8 := hidM (nxt HB7.out hb8)
              have HO8 := hidM (HO7.out.below hb8)
              rw [show errC true = 0 from rfl]
              clear hb8
              have HT8 := hidM (HTK.out W8 want (by omega))
              rw [HJT.out] at HT8
              go_wp2_with (first
                | (go_at_call 10; refine (HN.out _ _).mono ?_; rintro e W9 ⟨rfl, hw9⟩; subst W9))
              refine HT8.out.mono ?_
              rintro e W10 ⟨⟨v10, rfl, ho10⟩, hb10⟩
              simp only at ho10 ⊢
              have hb10' := (nxt HB8.out hb10)
              have HB11 := hidM (nxt hb10' (stJ W10 (jobO j v10)))
              have HO11 := hidM ((HO8.out.below hb10).below (stJ W10 (jobO j v10)))
              have hns11 := (NS.own ho10).below (stJ W10 (jobO j v10))
              have HNS := hidM hns11
              obtain ⟨q10, qc10, rfl⟩ := ho10.shape
              clear hb10 hb10' ho10 hns11
              obtain ⟨W11, hW11⟩ : ∃ W11 : World, W11 = W10.alloc (jobO j (.slice q10 l.length qc10)) := ⟨_, rfl⟩
              have hblk : Blk7 W11 W10.heap.size (.int .i64 j.id) (.string j.prog) (.int .i64 j.agg) (.int .i64 j.bound) (.int .i64 j.fuel) (.slice q10 l.length qc10) (.int .i64 j.parts) := by rw [hW11]; exact Blk7.new W10 _ _ _ _ _ _ _
              rw [← hW11] at HB11 HO11 HNS
              have HW11 := hidM hW11.symm
              have HSS := hidM (show ∀ W : World, Below W11.heap.size W11 W → W.cell? ⟨W10.heap.size, 0, none⟩ = some (.int .i64 j.id) ∧ W.cell? ⟨W10.heap.size, 1, none⟩ = some (.string j.prog) ∧ W.cell? ⟨W10.heap.size, 2, none⟩ = some (.int .i64 j.agg) ∧ W.cell? ⟨W10.heap.size, 3, none⟩ = some (.int .i64 j.bound) ∧ W.cell? ⟨W10.heap.size, 4, none⟩ = some (.int .i64 j.fuel) ∧ W.cell? ⟨W10.heap.size, 5, none⟩ = some (.slice q10 l.length qc10) ∧ W.cell? ⟨W10.heap.size, 6, none⟩ = some (.int .i64 j.parts) ∧ W.cell? ⟨w.heap.size, 5, none⟩ = some (.slice (some ⟨b, off, none⟩) L.length jc) ∧ W.cell? ⟨b, off + k * 7, none⟩ = some (.int .i64 j.id) ∧ W.cell? ⟨b, off + k * 7 + 1, none⟩ = some (.string j.prog) ∧ W.cell? ⟨b, off + k * 7 + 2, none⟩ = some (.int .i64 j.agg) ∧ W.cell? ⟨b, off + k * 7 + 3, none⟩ = some (.int .i64 j.bound) ∧ W.cell? ⟨b, off + k * 7 + 4, none⟩ = some (.int .i64 j.fuel) ∧ W.cell? ⟨b, off + k * 7 + 5, none⟩ = some (.slice ua l.length uc) ∧ W.cell? ⟨b, off + k * 7 + 6, none⟩ = some (.int .i64 j.parts) ∧ Below W11.heap.size W11 W from fun W hW => by
                obtain ⟨q0, q1, q2, q3, q4, q5, q6⟩ := (hblk.below hW).cells
                obtain ⟨d0, d1, d2, d3, d4, d5, d6⟩ := (HJC.out W (nxt HB11.out hW)).1
                exact ⟨q0, q1, q2, q3, q4, q5, q6, (H14.out.ask W (nxt HB11.out hW)).a5, d0, d1, d2, d3, d4, d5, d6, hW⟩)
              have HKEEP := hidM (fun (W W' : World) (hn : W.cell? ⟨W10.heap.size, 0, none⟩ = some (.int .i64 j.id) ∧ W.cell? ⟨W10.heap.size, 1, none⟩ = some (.string j.prog) ∧ W.cell? ⟨W10.heap.size, 2, none⟩ = some (.int .i64 j.agg) ∧ W.cell? ⟨W10.heap.size, 3, none⟩ = some (.int .i64 j.bound) ∧ W.cell? ⟨W10.heap.size, 4, none⟩ = some (.int .i64 j.fuel) ∧ W.cell? ⟨W10.heap.size, 5, none⟩ = some (.slice q10 l.length qc10) ∧ W.cell? ⟨W10.heap.size, 6, none⟩ = some (.int .i64 j.parts) ∧ W.cell? ⟨w.heap.size, 5, none⟩ = some (.slice (some ⟨b, off, none⟩) L.length jc) ∧ W.cell? ⟨b, off + k * 7, none⟩ = some (.int .i64 j.id) ∧ W.cell? ⟨b, off + k * 7 + 1, none⟩ = some (.string j.prog) ∧ W.cell? ⟨b, off + k * 7 + 2, none⟩ = some (.int .i64 j.agg) ∧ W.cell? ⟨b, off + k * 7 + 3, none⟩ = some (.int .i64 j.bound) ∧ W.cell? ⟨b, off + k * 7 + 4, none⟩ = some (.int .i64 j.fuel) ∧ W.cell? ⟨b, off + k * 7 + 5, none⟩ = some (.slice ua l.length uc) ∧ W.cell? ⟨b, off + k * 7 + 6, none⟩ = some (.int .i64 j.parts) ∧ Below W11.heap.size W11 W) (hb : Below W.heap.size W W') => HSS.out W' (nxt hn.2.2.2.2.2.2.2.2.2.2.2.2.2.2.2 hb))
              have HEQ := hidM (fun (W : World) (hW : Below W11.heap.size W11 W) => HJE.out W (.slice q10 l.length qc10) (.slice ua l.length uc) (HNS.out.below hW) (HJC.out W (nxt HB11.out hW)).2)
              have hS0 := HSS.out W11 (Below.refl _ _)
              clear hW11 hblk d0 d1 d2 d3 d4 d5 d6 a0 a1 a2 a3 a4 a5 a6
              go_wp2_with fail
              rw [HW11.out]
              go_region_held3 (fun W => W.cell? ⟨W10.heap.size, 0, none⟩ = some (.int .i64 j.id) ∧ W.cell? ⟨W10.heap.size, 1, none⟩ = some (.string j.prog) ∧ W.cell? ⟨W10.heap.size, 2, none⟩ = some (.int .i64 j.agg) ∧ W.cell? ⟨W10.heap.size, 3, none⟩ = some (.int .i64 j.bound) ∧ W.cell? ⟨W10.heap.size, 4, none⟩ = some (.int .i64 j.fuel) ∧ W.cell? ⟨W10.heap.size, 5, none⟩ = some (.slice q10 l.length qc10) ∧ W.cell? ⟨W10.heap.size, 6, none⟩ = some (.int .i64 j.parts) ∧ W.cell? ⟨w.heap.size, 5, none⟩ = some (.slice (some ⟨b, off, none⟩) L.length jc) ∧ W.cell? ⟨b, off + k * 7, none⟩ = some (.int .i64 j.id) ∧ W.cell? ⟨b, off + k * 7 + 1, none⟩ = some (.string j.prog) ∧ W.cell? ⟨b, off + k * 7 + 2, none⟩ = some (.int .i64 j.agg) ∧ W.cell? ⟨b, off + k * 7 + 3, none⟩ = some (.int .i64 j.bound) ∧ W.cell? ⟨b, off + k * 7 + 4, none⟩ = some (.int .i64 j.fuel) ∧ W.cell? ⟨b, off + k * 7 + 5, none⟩ = some (.slice ua l.length uc) ∧ W.cell? ⟨b, off + k * 7 + 6, none⟩ = some (.int .i64 j.parts) ∧ Below W11.heap.size W11 W)
                (first | with_reducible exact HKEEP.out _ _ (by assumption) (by assumption) | with_reducible exact HSS.out _ (Below.refl _ _).drew)
                (first
                  | (go_at_call 10; refine (HN.out _ _).mono ?_; rintro e W9 ⟨rfl, hw9⟩; subst W9)
                  | (go_at_call 13; refine (HEQ.out _ (by first | exact (‹_ ∧ _ ∧ _ ∧ _ ∧ _ ∧ _ ∧ _ ∧ _ ∧ _ ∧ _ ∧ _ ∧ _ ∧ _ ∧ _ ∧ _ ∧ Below W11.heap.size W11 _›).2.2.2.2.2.2.2.2.2.2.2.2.2.2.2 | exact (Below.refl _ _).drew)).mono ?_; rintro e W12 ⟨rfl, hb12⟩))
              have hbE := (‹_ ∧ _ ∧ _ ∧ _ ∧ _ ∧ _ ∧ _ ∧ _ ∧ _ ∧ _ ∧ _ ∧ _ ∧ _ ∧ _ ∧ _ ∧ Below W11.heap.size W11 _›).2.2.2.2.2.2.2.2.2.2.2.2.2.2.2
              have HBE := hidM (nxt HB11.out hbE)
              have HOE := hidM (HO11.out.below hbE)
              clear hbE HSS HKEEP HEQ hS0
              go_wp2
              go_roundw
              case rel => exact ⟨k + 1, T3, by omega, by go_num, HOE.out, HT2k, HBE.out⟩
              case measure => simp [intOf]; omega
      · have hki : ¬ ((k : Int) < (L.length : Int) ∧ (k : Int) < 6) := by omega
        have HJS := hidM (H14.out.js W0 HRF.out)
        have hk6d : ¬ (k : Int) < 6 ∨ ¬ (k : Int) < (L.length : Int) := by omega
        clear hown hbel
        have hTl := HTL.out.1
        have hcs : (k < L.length ∧ ¬ k < 6) ∨ ¬ k < L.length := by omega
        rcases hcs with ⟨hkl, hk6⟩ | hkl
        all_goals
          first
            | (have hkli : (k : Int) < (L.length : Int) := by omega
               have hk6i : ¬ (k : Int) < 6 := by omega
               go_wp2_with fail)
            | (have hkli : ¬ (k : Int) < (L.length : Int) := by omega
               go_wp2_with fail)
          clear hkl hkli hki hk6d a0 a1 a2 a3 a4 a5 a6
          go_loopw [12] (fun i wr => ∃ k2 : Nat, k2 ≤ T.length ∧ i = .int .i64 k2 ∧ Below w0.heap.size w0 wr) (fun i _ => T.length - (intOf i).toNat)
          case atStart => exact ⟨0, by omega, rfl, Below.refl _ _⟩
          case round =>
            rename World => w7
            obtain ⟨k2, hk2, rfl, hbel7⟩ := hrel
            have HB7 := hidM hbel7
            have HB7e := hidM (nxt HBEL.out hbel7)
            have hss := (SS.own HOWN.out).below hbel7
            clear hbel7
            by_cases hlt : k2 < T.length
            · obtain ⟨t, ht⟩ := getSome hlt
              have hts := HTL.out.2 t (List.mem_of_getElem? ht)
              obtain ⟨a', c', e', hsh⟩ := hss
              obtain rfl : a' = ta := by injection e' with e1; exact e1.symm
              rcases hsh with hnil | ⟨b, off, rfl, hb, hat⟩
              · rw [hnil] at hlt; simp at hlt
              have c0 := hat k2 t ht
              have HTX := hidM (fun (W : World) (hW : Below w7.heap.size w7 W) => (hW.cell (p := ⟨b, off + k2, none⟩) hb).trans c0)
              have hki : (k2 : Int) < (T.length : Int) := by omega
              have hk0 : (0 : Int) ≤ (k2 : Int) := by omega
              have hlen := jTake_len t
              have HTK := hidM (fun (W : World) => jtake_any t W (by omega))
              have HRK := hidM (fun (W : World) => rjtake_any t W (by omega))
              obtain ⟨⟨⟨j5, l5⟩, e5⟩, hR⟩ : ∃ R, R = jTake t := ⟨_, rfl⟩
              rw [← hR] at HTK HRK hlen
              simp only at hlen
              clear hat hb e' ht hR
              go_wp2_with fail
              refine (HTK.out _).mono ?_
              rintro e W5 ⟨⟨v5, rfl, ho5⟩, hb5⟩
              simp only at ho5 ⊢
              have HB5 := hidM (nxt HB7.out hb5)
              have hn5 := NS.own ho5
              obtain ⟨q5, qc5, rfl⟩ := ho5.shape
              have c6 := HTX.out (W5.alloc (jobO j5 (.slice q5 l5.length qc5))) (nxt hb5 (stJ W5 _))
              obtain ⟨W6, hW6⟩ : ∃ W6, W6 = W5.alloc (jobO j5 (.slice q5 l5.length qc5)) := ⟨_, rfl⟩
              have hblk : Blk7 W6 W5.heap.size (.int .i64 j5.id) (.string j5.prog) (.int .i64 j5.agg) (.int .i64 j5.bound) (.int .i64 j5.fuel) (.slice q5 l5.length qc5) (.int .i64 j5.parts) := by rw [hW6]; exact Blk7.new W5 _ _ _ _ _ _ _
              have HN6 := hidM (show NS W6 (.slice q5 l5.length qc5) l5 by rw [hW6]; exact hn5.below (stJ W5 _))
              have HB6 := hidM (show Below w7.heap.size w7 W6 by rw [hW6]; exact nxt hb5 (stJ W5 _))
              have HBK := hidM hblk
              have HW6 := hidM hW6.symm
              clear hb5 ho5 hn5 hblk hW6 c0
              go_wp2_with fail
              rw [HW6.out]
              refine (HRK.out _).mono ?_
              rintro e W8 ⟨⟨v8, rfl, ho8⟩, hb8⟩
              simp only at ho8 ⊢
              have hn8 := NS.own ho8
              obtain ⟨q8, qc8, rfl⟩ := ho8.shape
              have hbA := nxt hb8 (stJ W8 (jobO j5 (.slice q8 l5.length qc8)))
              obtain ⟨p0, p1, p2, p3, p4, p5, p6⟩ := (HBK.out.below hbA).cells
              obtain ⟨r0, r1, r2, r3, r4, r5, r6⟩ := (Blk7.new W8 (.int .i64 j5.id) (.string j5.prog) (.int .i64 j5.agg) (.int .i64 j5.bound) (.int .i64 j5.fuel) (.slice q8 l5.length qc8) (.int .i64 j5.parts)).cells
              have HEQ := hidM (eqjob_any j5 l5 (.slice q5 l5.length qc5) (.slice q8 l5.length qc8) _ (HN6.out.below hbA) (hn8.below (stJ W8 _)) (by omega))
              have HBA := hidM (nxt HB6.out hbA)
              clear hb8 ho8 hn8 c6 hbA HN6 HBK HW6
              go_wp2_with (first
                | (go_at_call 10; refine (HN.out _ _).mono ?_; rintro e Wn ⟨rfl, hwn⟩; subst Wn)
                | (go_at_call 13; refine HEQ.out.mono ?_; rintro e W12 ⟨rfl, hb12⟩))
              go_roundw
              case rel => exact ⟨k2 + 1, by omega, by go_num, nxt HB7.out (nxt HBA.out hb12)⟩
              case measure => simp [intOf]; omega
            · have hki : ¬ (k2 : Int) < (T.length : Int) := by omega
              go_wp2_with fail
              refine (wakes14_any _ (H14.out.env _ HB7e.out) (H14.out.hal _ HB7e.out)).mono ?_
              rintro e W8 ⟨rfl, hb8⟩
              go_wp2
              go_ret
              exact ⟨rfl, nxt H14.out.low (nxt HB7e.out hb8)⟩
end Go.Proofs.YtclcgakfmcofaaaGreatDoor
