/- Texts laid together: JRWho, JRCod, LawJW. -/
import Derived.Test.YtclcgakfmcofaaaGreatDoorMW50
import Derived.Test.YtclcgakfmcofaaaGreatDoorMW51
import Derived.Test.YtclcgakfmcofaaaGreatDoorMW46
import Derived.Test.YtclcgakfmcofaaaGreatDoorMW38
import Derived.Deep.RegionHeld3
import Derived.Deep.Cut
import Derived.Deep.CutRange
import Derived.Deep.CutBlock
set_option linter.unusedVariables false
set_option maxRecDepth 100000
set_option maxHeartbeats 8000000
namespace Go.Proofs.YtclcgakfmcofaaaGreatDoor
open Go.RowKit
theorem recsL_all {S : List cM} : ∀ {l : List Int}, (aR S l).2 = 0 → ∀ i ∈ l, ∃ q, bX S i = some q
 | [], _, i, hi => by simp at hi
 | a :: l, h, i, hi => by
  rw [aR.eq_def] at h
  simp only at h
  cases hf : bX S a with
  | none => rw [hf] at h; simp at h
  | some q =>
   rw [hf] at h
   simp only at h
   by_cases h2 : (aR S l).2 = 0
   ·rcases List.mem_cons.1 hi with rfl | hi
    ·exact ⟨q, hf⟩
    ·exact recsL_all h2 i hi
   ·rw [if_neg h2] at h; simp at h
theorem gZ {c : aX} {j : Jb} {l : List Int} (h : al c j l = 0) : ∀ i ∈ l, ∃ q, bX c.splits i = some q := by
 have h1 := dj h
 refine recsL_all (?_ : (aR c.splits l).2 = 0)
 unfold al at h
 rw [if_neg (by rw [h1.1, h1.2]; decide)] at h
 cases hp : dw j.prog with
 | err e => rw [hp] at h; have := gY hp; simp only at h; omega
 | ok f ws m =>
  rw [hp] at h
  simp only at h
  by_cases hc : cE f = 0
  ·rwa [if_neg (by simpa using hc)] at h
  ·rw [if_pos hc] at h; exact absurd h hc
noncomputable def lgB (c : aX) (j : Jb) (l : List Int) : Bool := l.any fun i => (aI j (dH c i)).2 == 2
theorem lgB_step {c : aX} {j : Jb} {l : List Int} {k : Nat} {i : Int} (h : l[k]? = some i) : lgB c j (l.take (k + 1)) = (lgB c j (l.take k) || ((aI j (dH c i)).2 == 2)) := by
 rw [List.take_add_one, h]
 unfold lgB
 show (l.take k ++ [i]).any _ = _
 rw [List.any_append]
 simp
theorem lgB_mem {c : aX} {j : Jb} {l : List Int} : lgB c j l = true ↔ 2 ∈ cX c j l := by
 unfold lgB
 rw [kT, List.any_eq_true]
 simp
theorem wholeOk_lg {c : aX} {j : Jb} {l : List Int} (ho : (bf c j l).2 = 0 ∨ bf c j l = (⟨#[]⟩, 2)) (h : lgB c j l = true) : dq c j l = (⟨#[]⟩, 2) := by
 by_cases h0 : (bf c j l).2 = 0
 ·exact kh h0 (lgB_mem.1 h)
 ·rw [fm h0]
  exact ho.resolve_left h0
theorem wholeOk_no {c : aX} {j : Jb} {l : List Int} (h : lgB c j l = false) : dq c j l = bf c j l := gy (fun e => by rw [lgB_mem.2 e] at h; cases h)
theorem bq.away {w0 W W' : World} {b6 base : Nat} {v v2 : Value} {l l2 : List Rc} (h : bq W b6 v l) (ho : bq w0 base v2 l2) (hle : w0.heap.size ≤ b6) (hg : W.grownBy W' v2.ownBlock) : bq W' b6 v l := by
 refine ⟨h.1, ?_⟩
 rcases h.2 with ⟨h1, h2⟩ | ⟨g, cap, cur, h1, h2, h3, h4⟩
 ·exact .inl ⟨h1, h2⟩
 ·refine .inr ⟨g, cap, cur, h1, h2, ?_, h4⟩
  rw [hg.block g (Array.getElem?_eq_some_iff.1 h3).1 (fun e => ?_)]
  ·exact h3
  ·rcases ho.2 with ⟨rfl, -⟩ | ⟨g2, cap2, cur2, rfl, -, hb2, -⟩
   ·cases e
   ·have e : some g = some g2 := e
    injection e with e
    have := (Array.getElem?_eq_some_iff.1 hb2).1
    omega
theorem nC (c : aX) (v : Value) (j : Jb) (u : Value) (l : List Int) (w : World) (hc : nG w c v) (hj : InJ w j u l) (hpos : 0 < w.heap.size) : Calls Tryz.prog 19 #[cL c v, cJ j u] w (ByR w (dV c j l)) := by
 obtain ⟨va, vc, rfl, hsps⟩ := hc.ps
 obtain ⟨ua, uc, rfl⟩ := hj.slice
 obtain ⟨W0, hW0⟩ : ∃ W0 : World, W0 = (w.alloc (gq c (.slice va c.splits.length vc))).alloc (fQ j (.slice ua l.length uc)) := ⟨_, rfl⟩
 have hb0 : Below w.heap.size w W0 := by rw [hW0]; exact ag (dN w _) (dN _ _)
 have HCJ := ae (show ∀ W, Below W0.heap.size W0 W → CJ w W c (.slice va c.splits.length vc) j (.slice ua l.length uc) from fun W hW => CJ.start w c _ j _ W (by rw [← hW0]; exact hW))
 have HNS := ae (show ∀ W, Below W0.heap.size W0 W → NS W (.slice ua l.length uc) l from fun W hW => (hj.ns.below hb0).below hW)
 have HVA := ae (fun (W : World) (hW : Below W0.heap.size W0 W) => jk c (.slice va c.splits.length vc) j (.slice ua l.length uc) l W ((hc.below hb0).below hW) ((hj.below hb0).below hW) (by have := hb0.size; have := hW.size; omega))
 have HFI := ae (fun (i : Int) (W : World) (hW : Below W0.heap.size W0 W) => kO c (.slice va c.splits.length vc) i W ((hc.below hb0).below hW))
 have HWFS := ae hc.wf
 have HPS := ae (fun (W : World) (hW : Below W0.heap.size W0 W) => ((hc.below hb0).below hW).ps)
 have HMAP := ae (fun (W : World) (v1 : Value) (i : Int) (hW : Below W0.heap.size W0 W) (h1 : RS W v1 (dH c i)) => rmap_any j ua l.length uc v1 (dH c i) W h1 (by have := (ft c i).2; omega) (by have := hj.prog; omega) (by have := hb0.size; have := hW.size; omega))
 have HGA := ae (fun (W : World) (v1 : Value) (i : Int) (hW : Below W0.heap.size W0 W) (h1 : RS W v1 (dH c i)) => rgath_any j ua l.length uc v1 (dH c i) W h1 (ft c i).1 (by have := (ft c i).2; omega) (by have := hj.prog; omega) (by have := hb0.size; have := hW.size; omega))
 have HW := ae hW0.symm
 have HB := ae hb0
 have HRF := ae (Below.refl W0.heap.size W0)
 clear hW0 hb0 hc hj hpos hsps
 obtain ⟨q0, q1, q2, q3, j0, j1, j2, j3, j4, j5, j6⟩ := HCJ.out W0 HRF.out
 by_cases hv : al c j l = 0
 case neg =>
  have HRt := ae (lI hv)
  have hd : (al c j l != 0) = true := by simpa using hv
  have hd2 : (al c j l == 0) = false := by simpa using hv
  generalize al c j l = x at HVA HRt hd hd2
  clear hv
  go_enter Tryz.func19, Tryz.ntmps19
  go_wp2_with fail
  rw [HW.out]
  refine (HVA.out W0 HRF.out).mono ?_
  rintro e W1 ⟨rfl, hb1⟩
  go_wp2
  go_ret2
  exact ⟨by rw [HRt.out]; rfl, ag HB.out hb1⟩
 case pos =>
  have hz := dj hv
  have HJ := ae (fk hz.2)
  have HCB := ae hz.1
  have HFD := ae (gZ hv)
  have HY := ae (ez hv)
  have hl6 := (fk hz.2).len.2
  rw [hv] at HVA
  clear hv hz
  go_enter Tryz.func19, Tryz.ntmps19
  go_wp2_with fail
  rw [HW.out]
  refine (HVA.out W0 HRF.out).mono ?_
  rintro e W1 ⟨rfl, hb1⟩
  have HB1 := ae hb1
  clear hb1 q0 q1 q2 q3 j0 j1 j2 j3 j4 j5 j6
  go_wp2
  go_loopw [7, 8, 9] (fun x g i wr => ∃ (k : Nat) (acc : List Rc), k ≤ l.length ∧ i = .int .i64 k ∧ Hid (fP c j l k acc) ∧ g = .bool (lgB c j (l.take k)) ∧ bq wr W0.heap.size x acc ∧ Below W0.heap.size W0 wr) (fun _ _ i _ => l.length - (intOf i).toNat)
  case atStart => exact ⟨0, [], by omega, rfl, fP.start c j l, by rw [List.take_zero]; rfl, World.ownsRow_nil _ _ _ _, HB1.out⟩
  case round =>
   rename World => w0
   obtain ⟨k, acc, hk, rfl, HT, rfl, hown, hbel⟩ := hrel
   have HBEL := ae hbel
   have HOWN := ae hown
   obtain ⟨q0, q1, q2, q3, j0, j1, j2, j3, j4, j5, j6⟩ := HCJ.out w0 hbel
   obtain ⟨ax, cx, rfl⟩ := hown.shape
   obtain ⟨lg, hlg⟩ : ∃ lg, lg = lgB c j (l.take k) := ⟨_, rfl⟩
   by_cases hlt : k < l.length
   ·obtain ⟨i, hi⟩ := ak hlt
    obtain ⟨q, hq⟩ := HFD.out i (List.mem_of_getElem? hi)
    obtain ⟨⟨si, tx, sl⟩, hsq, -⟩ := iZ hq
    obtain ⟨a', c', e', hsh⟩ := HNS.out w0 hbel
    obtain rfl : a' = ua := by injection e' with e1; exact e1.symm
    rcases hsh with hnil | ⟨b, off, rfl, hb, hat⟩
    ·rw [hnil] at hlt; simp at hlt
    obtain ⟨a2, c2, e2, hsh2⟩ := HPS.out w0 hbel
    obtain rfl : a2 = va := by injection e2 with e1; exact e1.symm
    rcases hsh2 with hnil | ⟨sb, so, rfl, hsb, hsat⟩
    ·rw [hnil] at hsq; simp at hsq
    obtain ⟨s0c, s1c, sa, sc, s2c, -⟩ := hsat q _ hsq
    simp only at s0c s1c s2c
    obtain ⟨sv, hsv⟩ : ∃ sv : Value, sv = .slice sa sl.length sc := ⟨_, rfl⟩
    rw [← hsv] at s2c
    have htx : tx.size ≤ 140737488351232 := (HWFS.out _ (List.mem_of_getElem? hsq)).txt
    have hrc : (bi tx).1 = dH c i := by
     unfold dH
     rw [jZ HCB.out hq]
     simp [List.getD_eq_getElem?_getD, hsq, lu]
    have hqn := (List.getElem?_eq_some_iff.1 hsq).1
    have hqi : (q : Int) < (c.splits.length : Int) := by omega
    have hq0 : (0 : Int) ≤ (q : Int) := by omega
    have c0 := hat k i hi
    have HSU := ae (show ∀ W, Below w0.heap.size w0 W → W.cell? ⟨w.heap.size, 0, none⟩ = some (.int .i64 c.sites) ∧ W.cell? ⟨w.heap.size, 1, none⟩ = some (.slice (some ⟨sb, so, none⟩) c.splits.length vc) ∧ W.cell? ⟨w.heap.size, 2, none⟩ = some (.int .i64 c.again) ∧ W.cell? ⟨w.heap.size, 3, none⟩ = some (.int .i64 c.over) ∧ W.cell? ⟨w.heap.size + 1, 5, none⟩ = some (.slice (some ⟨b, off, none⟩) l.length uc) ∧ W.cell? ⟨b, off + k, none⟩ = some (.int .i64 i) ∧ W.cell? ⟨sb, so + q * 3, none⟩ = some (.int .i64 si) ∧ W.cell? ⟨sb, so + q * 3 + 1, none⟩ = some (.string tx) ∧ W.cell? ⟨sb, so + q * 3 + 2, none⟩ = some sv ∧ Below w0.heap.size w0 W from fun W hW => by
     have h := HCJ.out W (ag HBEL.out hW)
     exact ⟨h.q0, h.q1, h.q2, h.q3, h.j5, (hW.cell (p := ⟨b, off + k, none⟩) hb).trans c0, (hW.cell (p := ⟨sb, so + q * 3, none⟩) hsb).trans s0c, (hW.cell (p := ⟨sb, so + q * 3 + 1, none⟩) hsb).trans s1c, (hW.cell (p := ⟨sb, so + q * 3 + 2, none⟩) hsb).trans s2c, hW⟩)
    have HKU := ae (fun (W W' : World) (hn : W.cell? ⟨w.heap.size, 0, none⟩ = some (.int .i64 c.sites) ∧ W.cell? ⟨w.heap.size, 1, none⟩ = some (.slice (some ⟨sb, so, none⟩) c.splits.length vc) ∧ W.cell? ⟨w.heap.size, 2, none⟩ = some (.int .i64 c.again) ∧ W.cell? ⟨w.heap.size, 3, none⟩ = some (.int .i64 c.over) ∧ W.cell? ⟨w.heap.size + 1, 5, none⟩ = some (.slice (some ⟨b, off, none⟩) l.length uc) ∧ W.cell? ⟨b, off + k, none⟩ = some (.int .i64 i) ∧ W.cell? ⟨sb, so + q * 3, none⟩ = some (.int .i64 si) ∧ W.cell? ⟨sb, so + q * 3 + 1, none⟩ = some (.string tx) ∧ W.cell? ⟨sb, so + q * 3 + 2, none⟩ = some sv ∧ Below w0.heap.size w0 W) (hb : Below W.heap.size W W') => HSU.out W' (ag hn.2.2.2.2.2.2.2.2.2 hb))
    have hki : (k : Int) < (l.length : Int) := by omega
    have hk0 : (0 : Int) ≤ (k : Int) := by omega
    have HF1 := ae (fun (W : World) (hW : Below W0.heap.size W0 W) => HFI.out i W hW)
    rw [kX hq] at HF1
    have HRE := ae (fun (W : World) => mU si tx sv W htx)
    rw [hrc] at HRE
    obtain ⟨⟨M1, M2⟩, hM⟩ : ∃ M, M = ap j (dH c i) := ⟨_, rfl⟩
    have HMP := ae (fun (W : World) (v1 : Value) (hW : Below W0.heap.size W0 W) (h1 : RS W v1 (dH c i)) => HMAP.out W v1 i hW h1)
    have HGP := ae (fun (W : World) (v1 : Value) (hW : Below W0.heap.size W0 W) (h1 : RS W v1 (dH c i)) => HGA.out W v1 i hW h1)
    obtain ⟨⟨G1, G2⟩, hG⟩ : ∃ G, G = aI j (dH c i) := ⟨_, rfl⟩
    have hls := lgB_step (c := c) (j := j) hi
    have hstep := fun h0 => HT.out.step hi h0
    have hbad := fun h0 => HT.out.bad hi h0
    rw [← hM] at HMP hstep hbad
    rw [← hG] at HGP hls
    rw [← hlg] at hls ⊢
    simp only at HMP HGP hstep hbad hls
    have hlen := HT.out.len
    have HSTEP := ae hstep
    have HBAD := ae hbad
    clear hat hi hq hsq hsat e' e2 hM hG hown hbel hb hsb hrc htx hsv hlg s0c s1c s2c c0 hstep hbad
    obtain ⟨q0, q1, q2, q3, j5, k0, z0, z1, z2, -⟩ := HSU.out w0 (Below.refl _ _)
    go_wp2
    go_region_held3 (fun W => W.cell? ⟨w.heap.size, 0, none⟩ = some (.int .i64 c.sites) ∧ W.cell? ⟨w.heap.size, 1, none⟩ = some (.slice (some ⟨sb, so, none⟩) c.splits.length vc) ∧ W.cell? ⟨w.heap.size, 2, none⟩ = some (.int .i64 c.again) ∧ W.cell? ⟨w.heap.size, 3, none⟩ = some (.int .i64 c.over) ∧ W.cell? ⟨w.heap.size + 1, 5, none⟩ = some (.slice (some ⟨b, off, none⟩) l.length uc) ∧ W.cell? ⟨b, off + k, none⟩ = some (.int .i64 i) ∧ W.cell? ⟨sb, so + q * 3, none⟩ = some (.int .i64 si) ∧ W.cell? ⟨sb, so + q * 3 + 1, none⟩ = some (.string tx) ∧ W.cell? ⟨sb, so + q * 3 + 2, none⟩ = some sv ∧ Below w0.heap.size w0 W)
     (first | with_reducible exact HKU.out _ _ (by assumption) (by assumption) | with_reducible exact HSU.out _ (Below.refl _ _).drew)
     (first
      | (go_at_call 54; refine (HF1.out _ (ag HBEL.out (by first | exact (‹_ ∧ _ ∧ _ ∧ _ ∧ _ ∧ _ ∧ _ ∧ _ ∧ _ ∧ Below w0.heap.size w0 _›).2.2.2.2.2.2.2.2.2 | exact (Below.refl _ _).drew))).mono ?_; rintro e W5 ⟨rfl, hb5⟩)
      | (go_at_call 53; refine (HRE.out _).mono ?_; rintro e W6 ⟨⟨v6, rfl, ho6⟩, hb6⟩; have HO6 := ae (bq.down ho6 ((‹_ ∧ _ ∧ _ ∧ _ ∧ _ ∧ _ ∧ _ ∧ _ ∧ _ ∧ Below w0.heap.size w0 _›).2.2.2.2.2.2.2.2.2.size)); obtain ⟨a6, c6, rfl⟩ := ho6.shape; clear ho6))
    obtain ⟨x0, x1, x2, x3, x5, xk, y0, y1, y2, hbX⟩ := ‹_ ∧ _ ∧ _ ∧ _ ∧ _ ∧ _ ∧ _ ∧ _ ∧ _ ∧ Below w0.heap.size w0 _›
    have HBX := ae (ag HBEL.out hbX)
    have HOX := ae (HOWN.out.below hbX)
    obtain ⟨p0, p1, p2, p3, r0, r1, r2, r3, r4, r5, r6⟩ := HCJ.out W6 HBX.out
    have HN6 := ae (RS.own HO6.out)
    clear hbX x0 x1 x2 x3 x5 xk y0 y1 y2 q0 q1 q2 q3 j5 k0 z0 z1 z2 hb5 hb6 HF1 HRE HKU HSU
    go_wp2_with fail
    refine (HMP.out W6 _ HBX.out HN6.out).mono ?_
    rintro e W7 ⟨⟨v7, rfl, ho7⟩, hb7⟩
    have HO7 := ae ho7
    obtain ⟨a7, c7, rfl⟩ := ho7.shape
    have HB7 := ae (ag HBX.out hb7)
    have HOX7 := ae (HOX.out.below hb7)
    have HO67 := ae (HO6.out.below hb7)
    clear ho7 hb7
    by_cases hm : M2 = 0
    ·subst hm
     have hmm : ((0 : Int) != 0) = false := rfl
     have hT2 := HSTEP.out rfl
     have hl2 := hT2.len
     rw [List.length_append] at hl2
     obtain ⟨v8, W8, u1, u2, u3⟩ := iq 97 HOX7.out (RS.own HO7.out) (by omega) HB7.out.size
     have hg8 := (Below.refl W7.heap.size W7)
     have U1 := ae u1
     have HO8 := ae u2
     have HB8 := ae (HB7.out.grown u3 HB7.out.size (own_rowM HOX7.out))
     have HN8 := ae (RS.own (bq.away HO67.out HOWN.out (Nat.le_refl _) u3))
     have HT2 := ae hT2
     obtain ⟨p0, p1, p2, p3, r0, r1, r2, r3, r4, r5, r6⟩ := HCJ.out W8 HB8.out
     obtain ⟨a8, c8, rfl⟩ := HO8.out.shape
     clear u1 u2 u3 hT2 hl2 hlen hg8
     cases lg with
     | true =>
      have HLS := ae (show lgB c j (l.take (k + 1)) = true by rw [hls]; rfl)
      clear hls
      go_wp2_with (first
       | (at_builtin; refine wpList_append_run _ rfl _ _ _ rfl _ _ _ W8 rfl rfl U1.out ?_)
       | (go_at_call 56; refine (HGP.out W8 _ HB8.out HN8.out).mono ?_; rintro e W9 ⟨rfl, hb9⟩))
      go_roundw
      case rel => exact ⟨k + 1, _, by omega, by go_num, HT2, by rw [HLS.out], (by rw [← List.length_append]; exact HO8.out.below hb9), ag HB8.out hb9⟩
      case measure => simp [intOf]; omega
     | false =>
      have HLS := ae (show lgB c j (l.take (k + 1)) = (G2 == 2) by rw [hls]; rfl)
      clear hls
      go_wp2_with (first
       | (at_builtin; refine wpList_append_run _ rfl _ _ _ rfl _ _ _ W8 rfl rfl U1.out ?_)
       | (go_at_call 56; refine (HGP.out W8 _ HB8.out HN8.out).mono ?_; rintro e W9 ⟨rfl, hb9⟩))
      go_roundw
      case rel => exact ⟨k + 1, _, by omega, by go_num, HT2, by rw [HLS.out], (by rw [← List.length_append]; exact HO8.out.below hb9), ag HB8.out hb9⟩
      case measure => simp [intOf]; omega
    ·have hme : (M2 != 0) = true := by simpa using hm
     have hme2 : (M2 == 0) = false := by simpa using hm
     have ht := HBAD.out hm
     have HRt := ae ((fm (c := c) (j := j) (l := l) (by rw [ht]; exact hm)).trans ht)
     clear hm ht
     go_wp2
     go_ret2
     exact ⟨by rw [HY.out, HRt.out]; rfl, ag HB.out HB7.out⟩
   ·have hki : ¬ (k : Int) < (l.length : Int) := by omega
    have e5 : l.take k = l := List.take_of_length_le (by omega)
    rw [e5] at hlg ⊢
    have hlen := HT.out.len
    have hTF := HT.out.fin (by omega)
    have hfine := iv (agg := j.agg) (bound := j.bound) HJ.out.way HT.out.keys HT.out.wf (by omega)
    have hR1 := fun h1 => lH hTF h1
    have hR2 := fun h1 => jf hTF h1
    have HFO := ae (oU j.agg j.bound _ acc w0 (RS.own hown) HT.out.wf (by omega) HJ.out.way)
    obtain ⟨⟨F1, F2⟩, hF⟩ : ∃ F, F = aB j.agg j.bound.toNat acc := ⟨_, rfl⟩
    rw [← hF] at HFO hR1 hR2 hfine
    simp only at HFO hR1 hR2 hfine
    by_cases hf2 : F2 = 0
    ·subst hf2
     rw [show fin (F1, (0 : Int)) = (F1, 0) from rfl] at HFO
     have hto := hR2 rfl
     have horr := mX j.agg j.parts F1
     rw [← hto] at horr
     have HOU := ae (fun (W : World) (v2 : Value) (hv : WS W v2 F1) => routput_any j.agg j.bound j.parts v2 F1 W hv hfine (fineJ_wf hfine) HJ.out.parts)
     rw [← hto] at HOU
     have HTR := ae (show (lgB c j l = true → dq c j l = (⟨#[]⟩, 2)) ∧ (lgB c j l = false → dq c j l = bf c j l) from ⟨fun h => wholeOk_lg horr h, fun h => wholeOk_no h⟩)
     have HCF2 := ae (show ∀ W, Below w0.heap.size w0 W → W.cell? ⟨w.heap.size + 1, 2, none⟩ = some (.int .i64 j.agg) ∧ W.cell? ⟨w.heap.size + 1, 6, none⟩ = some (.int .i64 j.parts) from fun W hW => by
      have h := HCJ.out W (ag HBEL.out hW)
      exact ⟨h.j2, h.j6⟩)
     generalize lgB c j l = lb at hlg HTR ⊢
     clear hTF hR1 hR2 hF hown hbel hlt hlen hto horr hfine e5 hlg
     cases lb with
     | true =>
      have HRt := ae (HTR.out.1 rfl)
      go_wp2_with fail
      refine HFO.out.mono ?_
      rintro e W2 ⟨⟨v2, rfl, ho2⟩, hb2⟩
      obtain ⟨a2, c2, rfl, -⟩ := id (aQ.ws ho2)
      clear ho2
      go_wp2
      go_ret2
      exact ⟨by rw [HY.out, HRt.out]; rfl, ag HB.out (ag HBEL.out hb2)⟩
     | false =>
      have HRt := ae (HTR.out.2 rfl)
      generalize bf c j l = T at HOU HRt
      obtain ⟨T1, T2⟩ := T
      go_wp2_with fail
      refine HFO.out.mono ?_
      rintro e W2 ⟨⟨v2, rfl, ho2⟩, hb2⟩
      have HN2 := ae (aQ.ws ho2)
      obtain ⟨a2, c2, rfl, -⟩ := id (aQ.ws ho2)
      have HB2 := ae hb2
      obtain ⟨z2, z6⟩ := HCF2.out W2 hb2
      clear ho2 hb2
      go_wp2_with fail
      refine (HOU.out W2 _ HN2.out).mono ?_
      rintro e W3 ⟨rfl, hb3⟩
      go_wp2
      go_ret2
      exact ⟨by rw [HY.out, HRt.out]; rfl, ag HB.out (ag HBEL.out (ag HB2.out hb3))⟩
    ·have hme : (F2 != 0) = true := by simpa using hf2
     have hme2 : (F2 == 0) = false := by simpa using hf2
     have ht := hR1 hf2
     have HRt := ae ((fm (c := c) (j := j) (l := l) (by rw [ht]; exact hf2)).trans ht)
     rw [show fin (F1, F2) = ([], F2) from fS hf2] at HFO
     clear hTF hR1 hR2 hF hown hbel hlt hlen hf2 ht hfine e5
     go_wp2_with fail
     refine HFO.out.mono ?_
     rintro e W2 ⟨⟨v2, rfl, ho2⟩, hb2⟩
     obtain ⟨a2, c2, rfl, -⟩ := id (aQ.ws ho2)
     clear ho2
     go_wp2
     go_ret2
     exact ⟨by rw [HY.out, HRt.out]; rfl, ag HB.out (ag HBEL.out hb2)⟩
theorem once_ins (e : Int) (A : List Int) : jm e (once A) = once (A ++ [e]) := gF (jr e _ (hU A)) (hU _) fun z => by
 rw [jq, mb, mb, List.mem_append, List.mem_singleton]
 exact Or.comm
theorem once_len (A : List Int) : (once A).length ≤ A.length := by
 rw [← kV]
 have := List.length_filter_le (Go.Lib.keeps (A.mergeSort jn).toArray) (List.range (A.mergeSort jn).toArray.size)
 have h3 := (List.mergeSort_perm A jn).length_eq
 unfold Go.Lib.compactUpTo
 simp only [List.length_map, List.length_range, List.size_toArray] at *
 omega
theorem rcodes_any (c : aX) (v : Value) (j : Jb) (u : Value) (l : List Int) (w : World) (hc : nG w c v) (hj : InJ w j u l) (hpos : 0 < w.heap.size) : Calls Tryz.prog 24 #[cL c v, cJ j u] w (CodR w (dh c j l)) := by
 obtain ⟨va, vc, rfl, hsps⟩ := hc.ps
 obtain ⟨ua, uc, rfl⟩ := hj.slice
 obtain ⟨W0, hW0⟩ : ∃ W0 : World, W0 = (w.alloc (gq c (.slice va c.splits.length vc))).alloc (fQ j (.slice ua l.length uc)) := ⟨_, rfl⟩
 have hb0 : Below w.heap.size w W0 := by rw [hW0]; exact ag (dN w _) (dN _ _)
 have HCJ := ae (show ∀ W, Below W0.heap.size W0 W → CJ w W c (.slice va c.splits.length vc) j (.slice ua l.length uc) from fun W hW => CJ.start w c _ j _ W (by rw [← hW0]; exact hW))
 have HNS := ae (show ∀ W, Below W0.heap.size W0 W → NS W (.slice ua l.length uc) l from fun W hW => (hj.ns.below hb0).below hW)
 have HVA := ae (fun (W : World) (hW : Below W0.heap.size W0 W) => jk c (.slice va c.splits.length vc) j (.slice ua l.length uc) l W ((hc.below hb0).below hW) ((hj.below hb0).below hW) (by have := hb0.size; have := hW.size; omega))
 have HFI := ae (fun (i : Int) (W : World) (hW : Below W0.heap.size W0 W) => kO c (.slice va c.splits.length vc) i W ((hc.below hb0).below hW))
 have HWFS := ae hc.wf
 have HPS := ae (fun (W : World) (hW : Below W0.heap.size W0 W) => ((hc.below hb0).below hW).ps)
 have HGA := ae (fun (W : World) (v1 : Value) (i : Int) (hW : Below W0.heap.size W0 W) (h1 : RS W v1 (dH c i)) => rgath_any j ua l.length uc v1 (dH c i) W h1 (ft c i).1 (by have := (ft c i).2; omega) (by have := hj.prog; omega) (by have := hb0.size; have := hW.size; omega))
 have HWO := ae (fun (W : World) (hW : Below W0.heap.size W0 W) => nC c (.slice va c.splits.length vc) j (.slice ua l.length uc) l W ((hc.below hb0).below hW) ((hj.below hb0).below hW) (by have := hb0.size; have := hW.size; omega))
 have HW := ae hW0.symm
 have HB := ae hb0
 have HRF := ae (Below.refl W0.heap.size W0)
 clear hW0 hb0 hc hj hpos hsps
 obtain ⟨q0, q1, q2, q3, j0, j1, j2, j3, j4, j5, j6⟩ := HCJ.out W0 HRF.out
 by_cases hv : al c j l = 0
 case neg =>
  have HRt := ae (lJ hv)
  have hd : (al c j l != 0) = true := by simpa using hv
  have hd2 : (al c j l == 0) = false := by simpa using hv
  generalize al c j l = x at HVA HRt hd hd2
  clear hv
  go_enter Tryz.func24, Tryz.ntmps24
  go_wp2_with fail
  rw [HW.out]
  refine (HVA.out W0 HRF.out).mono ?_
  rintro e W1 ⟨rfl, hb1⟩
  have HOO := ae (lZ W1 x w.heap.size (ag HB.out hb1).size)
  have HBB := ae (ag (ag HB.out hb1) (dN W1 (.cells #[.int .i64 x] 3)))
  clear hb1
  go_wp2
  go_ret
  exact ⟨⟨_, rfl, by rw [HRt.out]; exact HOO.out⟩, HBB.out⟩
 case pos =>
  have hz := dj hv
  have HJ := ae (fk hz.2)
  have HCB := ae hz.1
  have HFD := ae (gZ hv)
  have HY := ae (ki hv)
  have HWY := ae (ez hv)
  have hl6 := (fk hz.2).len.2
  rw [hv] at HVA
  clear hv hz
  go_enter Tryz.func24, Tryz.ntmps24
  go_wp2_with fail
  rw [HW.out]
  refine (HVA.out W0 HRF.out).mono ?_
  rintro e W1 ⟨rfl, hb1⟩
  have HB1 := ae hb1
  clear hb1 q0 q1 q2 q3 j0 j1 j2 j3 j4 j5 j6
  go_wp2
  go_loopw [6, 7] (fun x i wr => ∃ k : Nat, k ≤ l.length ∧ i = .int .i64 k ∧ aM wr W0.heap.size x (once (iI c j (l.take k))) ∧ Below W0.heap.size W0 wr) (fun _ i _ => l.length - (intOf i).toNat)
  case atStart => exact ⟨0, by omega, rfl, by rw [List.take_zero]; exact aM.nilI _ _, HB1.out⟩
  case round =>
   rename World => w0
   obtain ⟨k, hk, rfl, hown, hbel⟩ := hrel
   have HBEL := ae hbel
   have HOWN := ae hown
   obtain ⟨q0, q1, q2, q3, j0, j1, j2, j3, j4, j5, j6⟩ := HCJ.out w0 hbel
   have hclen := apG_len c j (l.take k)
   rw [List.length_take, Nat.min_eq_left hk] at hclen
   have holen := once_len (iI c j (l.take k))
   obtain ⟨ax, cx, rfl⟩ := hown.shape
   by_cases hlt : k < l.length
   ·obtain ⟨i, hi⟩ := ak hlt
    obtain ⟨q, hq⟩ := HFD.out i (List.mem_of_getElem? hi)
    obtain ⟨⟨si, tx, sl⟩, hsq, -⟩ := iZ hq
    obtain ⟨a', c', e', hsh⟩ := HNS.out w0 hbel
    obtain rfl : a' = ua := by injection e' with e1; exact e1.symm
    rcases hsh with hnil | ⟨b, off, rfl, hb, hat⟩
    ·rw [hnil] at hlt; simp at hlt
    obtain ⟨a2, c2, e2, hsh2⟩ := HPS.out w0 hbel
    obtain rfl : a2 = va := by injection e2 with e1; exact e1.symm
    rcases hsh2 with hnil | ⟨sb, so, rfl, hsb, hsat⟩
    ·rw [hnil] at hsq; simp at hsq
    obtain ⟨s0c, s1c, sa, sc, s2c, -⟩ := hsat q _ hsq
    simp only at s0c s1c s2c
    obtain ⟨sv, hsv⟩ : ∃ sv : Value, sv = .slice sa sl.length sc := ⟨_, rfl⟩
    rw [← hsv] at s2c
    have htx : tx.size ≤ 140737488351232 := (HWFS.out _ (List.mem_of_getElem? hsq)).txt
    have hrc : (bi tx).1 = dH c i := by
     unfold dH
     rw [jZ HCB.out hq]
     simp [List.getD_eq_getElem?_getD, hsq, lu]
    have hqn := (List.getElem?_eq_some_iff.1 hsq).1
    have hqi : (q : Int) < (c.splits.length : Int) := by omega
    have hq0 : (0 : Int) ≤ (q : Int) := by omega
    have c0 := hat k i hi
    have HSU := ae (show ∀ W, Below w0.heap.size w0 W → W.cell? ⟨w.heap.size, 0, none⟩ = some (.int .i64 c.sites) ∧ W.cell? ⟨w.heap.size, 1, none⟩ = some (.slice (some ⟨sb, so, none⟩) c.splits.length vc) ∧ W.cell? ⟨w.heap.size, 2, none⟩ = some (.int .i64 c.again) ∧ W.cell? ⟨w.heap.size, 3, none⟩ = some (.int .i64 c.over) ∧ W.cell? ⟨w.heap.size + 1, 0, none⟩ = some (.int .i64 j.id) ∧ W.cell? ⟨w.heap.size + 1, 1, none⟩ = some (.string j.prog) ∧ W.cell? ⟨w.heap.size + 1, 2, none⟩ = some (.int .i64 j.agg) ∧ W.cell? ⟨w.heap.size + 1, 3, none⟩ = some (.int .i64 j.bound) ∧ W.cell? ⟨w.heap.size + 1, 4, none⟩ = some (.int .i64 j.fuel) ∧ W.cell? ⟨w.heap.size + 1, 5, none⟩ = some (.slice (some ⟨b, off, none⟩) l.length uc) ∧ W.cell? ⟨w.heap.size + 1, 6, none⟩ = some (.int .i64 j.parts) ∧ W.cell? ⟨b, off + k, none⟩ = some (.int .i64 i) ∧ W.cell? ⟨sb, so + q * 3, none⟩ = some (.int .i64 si) ∧ W.cell? ⟨sb, so + q * 3 + 1, none⟩ = some (.string tx) ∧ W.cell? ⟨sb, so + q * 3 + 2, none⟩ = some sv ∧ Below w0.heap.size w0 W from fun W hW => by
     have h := HCJ.out W (ag HBEL.out hW)
     exact ⟨h.q0, h.q1, h.q2, h.q3, h.j0, h.j1, h.j2, h.j3, h.j4, h.j5, h.j6, (hW.cell (p := ⟨b, off + k, none⟩) hb).trans c0, (hW.cell (p := ⟨sb, so + q * 3, none⟩) hsb).trans s0c, (hW.cell (p := ⟨sb, so + q * 3 + 1, none⟩) hsb).trans s1c, (hW.cell (p := ⟨sb, so + q * 3 + 2, none⟩) hsb).trans s2c, hW⟩)
    have HKU := ae (fun (W W' : World) (hn : W.cell? ⟨w.heap.size, 0, none⟩ = some (.int .i64 c.sites) ∧ W.cell? ⟨w.heap.size, 1, none⟩ = some (.slice (some ⟨sb, so, none⟩) c.splits.length vc) ∧ W.cell? ⟨w.heap.size, 2, none⟩ = some (.int .i64 c.again) ∧ W.cell? ⟨w.heap.size, 3, none⟩ = some (.int .i64 c.over) ∧ W.cell? ⟨w.heap.size + 1, 0, none⟩ = some (.int .i64 j.id) ∧ W.cell? ⟨w.heap.size + 1, 1, none⟩ = some (.string j.prog) ∧ W.cell? ⟨w.heap.size + 1, 2, none⟩ = some (.int .i64 j.agg) ∧ W.cell? ⟨w.heap.size + 1, 3, none⟩ = some (.int .i64 j.bound) ∧ W.cell? ⟨w.heap.size + 1, 4, none⟩ = some (.int .i64 j.fuel) ∧ W.cell? ⟨w.heap.size + 1, 5, none⟩ = some (.slice (some ⟨b, off, none⟩) l.length uc) ∧ W.cell? ⟨w.heap.size + 1, 6, none⟩ = some (.int .i64 j.parts) ∧ W.cell? ⟨b, off + k, none⟩ = some (.int .i64 i) ∧ W.cell? ⟨sb, so + q * 3, none⟩ = some (.int .i64 si) ∧ W.cell? ⟨sb, so + q * 3 + 1, none⟩ = some (.string tx) ∧ W.cell? ⟨sb, so + q * 3 + 2, none⟩ = some sv ∧ Below w0.heap.size w0 W) (hb : Below W.heap.size W W') => HSU.out W' (ag hn.2.2.2.2.2.2.2.2.2.2.2.2.2.2.2 hb))
    have hki : (k : Int) < (l.length : Int) := by omega
    have hk0 : (0 : Int) ≤ (k : Int) := by omega
    have HF1 := ae (fun (W : World) (hW : Below W0.heap.size W0 W) => HFI.out i W hW)
    rw [kX hq] at HF1
    have HRE := ae (fun (W : World) => mU si tx sv W htx)
    rw [hrc] at HRE
    have HGP := ae (fun (W : World) (v1 : Value) (hW : Below W0.heap.size W0 W) (h1 : RS W v1 (dH c i)) => HGA.out W v1 i hW h1)
    obtain ⟨⟨G1, G2⟩, hG⟩ : ∃ G, G = aI j (dH c i) := ⟨_, rfl⟩
    have hstep := apG_step (c := c) (j := j) hi
    rw [← hG] at HGP hstep
    simp only at HGP hstep
    obtain ⟨A0, hA0⟩ : ∃ A0, A0 = iI c j (l.take k) := ⟨_, rfl⟩
    rw [← hA0] at hstep HOWN hclen holen ⊢
    have HRI := ae (hU A0)
    clear hat hi hq hsq hsat e' e2 hG hown hbel hb hsb hrc htx hsv s0c s1c s2c c0 hA0
    have HST := ae hstep
    clear hstep
    obtain ⟨q0, q1, q2, q3, j0, j1, j2, j3, j4, j5, j6, k0, z0, z1, z2, -⟩ := HSU.out w0 (Below.refl _ _)
    go_wp2
    go_region_held3 (fun W => W.cell? ⟨w.heap.size, 0, none⟩ = some (.int .i64 c.sites) ∧ W.cell? ⟨w.heap.size, 1, none⟩ = some (.slice (some ⟨sb, so, none⟩) c.splits.length vc) ∧ W.cell? ⟨w.heap.size, 2, none⟩ = some (.int .i64 c.again) ∧ W.cell? ⟨w.heap.size, 3, none⟩ = some (.int .i64 c.over) ∧ W.cell? ⟨w.heap.size + 1, 0, none⟩ = some (.int .i64 j.id) ∧ W.cell? ⟨w.heap.size + 1, 1, none⟩ = some (.string j.prog) ∧ W.cell? ⟨w.heap.size + 1, 2, none⟩ = some (.int .i64 j.agg) ∧ W.cell? ⟨w.heap.size + 1, 3, none⟩ = some (.int .i64 j.bound) ∧ W.cell? ⟨w.heap.size + 1, 4, none⟩ = some (.int .i64 j.fuel) ∧ W.cell? ⟨w.heap.size + 1, 5, none⟩ = some (.slice (some ⟨b, off, none⟩) l.length uc) ∧ W.cell? ⟨w.heap.size + 1, 6, none⟩ = some (.int .i64 j.parts) ∧ W.cell? ⟨b, off + k, none⟩ = some (.int .i64 i) ∧ W.cell? ⟨sb, so + q * 3, none⟩ = some (.int .i64 si) ∧ W.cell? ⟨sb, so + q * 3 + 1, none⟩ = some (.string tx) ∧ W.cell? ⟨sb, so + q * 3 + 2, none⟩ = some sv ∧ Below w0.heap.size w0 W)
     (first | with_reducible exact HKU.out _ _ (by assumption) (by assumption) | with_reducible exact HSU.out _ (Below.refl _ _).drew)
     (first
      | (go_at_call 54; refine (HF1.out _ (ag HBEL.out (by first | exact (‹_ ∧ _ ∧ _ ∧ _ ∧ _ ∧ _ ∧ _ ∧ _ ∧ _ ∧ _ ∧ _ ∧ _ ∧ _ ∧ _ ∧ _ ∧ Below w0.heap.size w0 _›).2.2.2.2.2.2.2.2.2.2.2.2.2.2.2 | exact (Below.refl _ _).drew))).mono ?_; rintro e W5 ⟨rfl, hb5⟩)
      | (go_at_call 53; refine (HRE.out _).mono ?_; rintro e W6 ⟨⟨v6, rfl, ho6⟩, hb6⟩; have HN6 := ae (RS.own ho6); obtain ⟨a6, c6, rfl⟩ := ho6.shape; clear ho6)
      | (go_at_call 56; refine (HGP.out _ _ (ag HBEL.out (by exact (‹_ ∧ _ ∧ _ ∧ _ ∧ _ ∧ _ ∧ _ ∧ _ ∧ _ ∧ _ ∧ _ ∧ _ ∧ _ ∧ _ ∧ _ ∧ Below w0.heap.size w0 _›).2.2.2.2.2.2.2.2.2.2.2.2.2.2.2)) HN6.out).mono ?_; rintro e W7 ⟨rfl, hb7⟩))
    obtain ⟨x0, x1, x2, x3, y0, y1, y2, y3, y4, y5, y6, xk, t0, t1, t2, hbX⟩ := ‹_ ∧ _ ∧ _ ∧ _ ∧ _ ∧ _ ∧ _ ∧ _ ∧ _ ∧ _ ∧ _ ∧ _ ∧ _ ∧ _ ∧ _ ∧ Below w0.heap.size w0 _›
    have HBX := ae (ag HBEL.out hbX)
    have HOX := ae (HOWN.out.below hbX)
    clear hbX HSU HKU HF1 HRE
    by_cases hm : G2 = 0
    ·subst hm
     have hmm : ((0 : Int) != 0) = false := rfl
     have HS2 := ae (show iI c j (l.take (k + 1)) = A0 by rw [HST.out]; simp)
     go_wp2
     go_roundw
     case rel => exact ⟨k + 1, by omega, by go_num, by rw [HS2.out]; exact HOX.out, HBX.out⟩
     case measure => simp [intOf]; omega
    ·have hme : (G2 != 0) = true := by simpa using hm
     have hme2 : (G2 == 0) = false := by simpa using hm
     have HS2 := ae (show once (iI c j (l.take (k + 1))) = jm G2 (once A0) by rw [HST.out, if_pos hm, once_ins])
     have HWI := ae (fun (W : World) (hW : NS W (.slice ax (once A0).length cx) (once A0)) => rwith_any (.slice ax (once A0).length cx) (once A0) G2 W hW (by omega) HRI.out)
     have HNX := ae (NS.own HOX.out)
     clear hm
     go_wp2_with fail
     refine (HWI.out W7 HNX.out).mono ?_
     rintro e W8 ⟨⟨v8, rfl, ho8⟩, hb8⟩
     have HO8 := ae (aM.down ho8 HBX.out.size)
     obtain ⟨a8, c8, rfl⟩ := ho8.shape
     clear ho8
     go_wp2
     go_roundw
     case rel => exact ⟨k + 1, by omega, by go_num, by rw [HS2.out]; exact HO8.out, ag HBX.out hb8⟩
     case measure => simp [intOf]; omega
   ·have hki : ¬ (k : Int) < (l.length : Int) := by omega
    have e5 : l.take k = l := List.take_of_length_le (by omega)
    rw [e5] at HOWN holen ⊢
    have HO := ae (aM.down HOWN.out HB.out.size)
    have hE1 := fun h => nr (c := c) (j := j) (l := l) h
    have hE2 := fun h h2 => lK (c := c) (j := j) (l := l) h h2
    have hE3 := fun h h2 => lL (c := c) (j := j) (l := l) h h2
    have hWO := fun h2 => gy (c := c) (j := j) (l := l) h2
    rw [show once (iI c j l) = cX c j l from rfl] at HO holen ⊢
    obtain ⟨A, hA⟩ : ∃ A, A = cX c j l := ⟨_, rfl⟩
    rw [← hA] at HO hE1 hE2 hE3 hWO ⊢
    clear hown e5 HOWN holen hclen hlt hA
    by_cases ha : A = []
    ·subst ha
     have HT := ae (HWY.out.trans (hWO (by simp)))
     have HE2 := ae (fun h2 => hE2 rfl h2)
     have HE3 := ae (fun h2 => hE3 rfl h2)
     have HWW := ae (HWO.out w0 hbel)
     rw [HT.out] at HWW
     obtain ⟨T, hT⟩ : ∃ T, T = bf c j l := ⟨_, rfl⟩
     rw [← hT] at HWW HE2 HE3
     obtain ⟨T1, T2⟩ := T
     simp only [List.length_nil] at HO ⊢
     clear hE1 hE2 hE3 hWO HT hT hbel
     go_wp2_with fail
     refine HWW.out.mono ?_
     rintro e W3 ⟨rfl, hb3⟩
     have HB3 := ae (ag HBEL.out hb3)
     clear hb3
     by_cases ht : T2 = 0
     ·subst ht
      have HRt := ae (HE3.out rfl)
      clear HE2 HE3
      go_wp2
      go_ret
      exact ⟨⟨_, rfl, by rw [HY.out, HRt.out]; exact aM.nilI _ _⟩, ag HB.out HB3.out⟩
     ·have hd : (T2 != 0) = true := by simpa using ht
      have hd2 : (T2 == 0) = false := by simpa using ht
      have HRt := ae (HE2.out ht)
      have HOO := ae (lZ W3 T2 w.heap.size (ag HB.out HB3.out).size)
      have HBB := ae (ag (ag HB.out HB3.out) (dN W3 (.cells #[.int .i64 T2] 3)))
      clear HE2 HE3 ht
      go_wp2
      go_ret
      exact ⟨⟨_, rfl, by rw [HY.out, HRt.out]; exact HOO.out⟩, HBB.out⟩
    ·have hpos : 0 < A.length := List.length_pos_iff.2 ha
     have hposi : (0 : Int) < (A.length : Int) := by omega
     have hpd : decide ((0 : Int) < (A.length : Int)) = true := decide_eq_true hposi
     have hpd2 : decide (0 < A.length) = true := decide_eq_true hpos
     have HRt := ae (hE1 ha)
     clear hE1 hE2 hE3 hWO ha hbel
     go_wp2
     go_ret
     exact ⟨⟨_, rfl, by rw [HY.out, HRt.out]; exact HO.out⟩, ag HB.out HBEL.out⟩
theorem nD : ∀ (l : List Int) (lo hi : Int), lo ≤ hi + 1 → (∀ x ∈ l, lo ≤ x ∧ x ≤ hi) → l.Pairwise (· < ·) → (l.length : Int) ≤ hi - lo + 1
 | [], lo, hi, h, _, _ => by simp; omega
 | x :: l, lo, hi, h, hx, hp => by
  have h1 := hx x (List.mem_cons_self ..)
  rw [List.pairwise_cons] at hp
  have := nD l (x + 1) hi (by omega) (fun y hy => ⟨by have := hp.1 y hy; omega, (hx y (List.mem_cons_of_mem _ hy)).2⟩) hp.2
  rw [List.length_cons]
  omega
theorem codesRes_len (c : aX) (j : Jb) (l : List Int) : (dh c j l).length ≤ 64 := by
 obtain ⟨h1, h2⟩ := gh (codes_rise c j l)
 have := nD _ 1 64 (by omega) h1 h2
 omega
theorem lawjw (c : aX) (vp vl vj : Value) (ids : List Int) (L : List Jl) (x : ByteArray) (w : World) (h : In14 w c vp vl vj ids L x) (hE : iu w) (hH : bI w) :
  Calls Tryz.prog 4 #[askV14 c vp vl vj x] w (jI w true) := by
 have hL := L14.start h hE hH
 obtain ⟨W0, hW0⟩ : ∃ W0 : World, W0 = w.alloc (jg c vp vl vj x) := ⟨_, rfl⟩
 rw [← hW0] at hL
 have H14 := ae hL
 have HH1 := ae (heavy14_any c vp vl vj ids L x W0 (h.below hL.low))
 have HWF := ae h.wf
 obtain ⟨ja, jc, rfl, -⟩ := h.jcap
 obtain ⟨sa, sc, rfl, -⟩ := h.s.cap
 obtain ⟨la, lc, rfl, -⟩ := h.s.lcap
 have HW := ae hW0.symm
 have HRF := ae (Below.refl W0.heap.size W0)
 have HN := ae num14_any
 clear hW0 hL h hE hH
 obtain ⟨a0, a1, a2, a3, a4, a5, a6⟩ := H14.out.ask W0 HRF.out
 go_enter Tryz.func4, Tryz.ntmps4
 go_wp2_with fail
 rw [HW.out]
 refine HH1.out.mono ?_
 rintro e W1 ⟨⟨r, rfl, hr⟩, hb1⟩
 have HB1 := ae hb1
 have HRr := ae hr
 clear a0 a1 a2 a3 a4 a5 a6 hb1 hr
 cases r with
 | true =>
  go_wp2
  go_ret
  exact ⟨rfl, ag H14.out.low HB1.out⟩
 | false =>
  have hS := HRr.out rfl
  have HS := ae hS
  have hx8 := hS.x
  obtain ⟨a0, a1, a2, a3, a4, a5, a6⟩ := H14.out.ask W1 HB1.out
  clear hS
  go_wp2
  clear a0 a1 a2 a3 a4 a5 a6
  go_loopw [3] (fun i wr => ∃ k : Nat, k ≤ 6 ∧ i = .int .i64 k ∧ Below W0.heap.size W0 wr) (fun i _ => 6 - (intOf i).toNat)
  case atStart => exact ⟨0, by omega, rfl, HB1.out⟩
  case round =>
   rename World => w0
   obtain ⟨k, hk, rfl, hbel⟩ := hrel
   have HBEL := ae hbel
   obtain ⟨a0, a1, a2, a3, a4, a5, a6⟩ := H14.out.ask w0 hbel
   by_cases hgo : k < L.length ∧ k < 6
   ·obtain ⟨hlt, hk6⟩ := hgo
    obtain ⟨y, hy⟩ := ak hlt
    have hwy := HWF.out y (List.mem_of_getElem? hy)
    have hys := HS.out.jobs y (List.mem_of_getElem? hy)
    obtain ⟨a', c', e', hsh⟩ := H14.out.js W0 HRF.out
    obtain rfl : a' = ja := by injection e' with e1; exact e1.symm
    rcases hsh with hnil | ⟨b, off, rfl, hb, hat⟩
    ·rw [hnil] at hlt; simp at hlt
    obtain ⟨ua, uc, hJC⟩ := JC.at hat hy hb
    have HJC := ae hJC
    have HIJ := ae (fun (W : World) (hW : Below W0.heap.size W0 W) => hwy.inJ (hJC W hW).2 (by omega) (by omega))
    have hki : (k : Int) < (L.length : Int) := by omega
    have hk0 : (0 : Int) ≤ (k : Int) := by omega
    have hk6i : (k : Int) < 6 := by omega
    have hk6d : decide ((k : Int) < 6) = true := decide_eq_true hk6i
    have hk6e : decide (k < 6) = true := decide_eq_true hk6
    obtain ⟨j, l⟩ := y
    simp only at HJC HIJ hys
    obtain ⟨c0, c1, c2, c3, c4, c5, c6⟩ := (HJC.out w0 HBEL.out).1
    have HA := ae (show ∀ W : World, Below w0.heap.size w0 W → A6 w.heap.size b off k L.length jc c (.slice sa c.splits.length sc) j (.slice ua l.length uc) W from fun W hW => by
     obtain ⟨d0, d1, d2, d3, d4, d5, d6⟩ := (HJC.out W (ag HBEL.out hW)).1
     have A := H14.out.ask W (ag HBEL.out hW)
     exact ⟨A.a0, A.a1, A.a2, A.a3, A.a5, d0, d1, d2, d3, d4, d5, d6⟩)
    have HC1 := ae (fun (W : World) (hW : Below w0.heap.size w0 W) => nz c (.slice sa c.splits.length sc) W (H14.out.cfg W (ag HBEL.out hW)) HS.out.cfg)
    have HC2 := ae (fun (W : World) (hW : Below w0.heap.size w0 W) => copyJob_any j l (.slice ua l.length uc) W (HIJ.out W (ag HBEL.out hW)).ns (by omega))
    clear hat hy hwy e' hJC hbel hb
    go_upto_region 6 with fail
    clear a0 a1 a2 a3 a4 a5 a6 c0 c1 c2 c3 c4 c5 c6
    refine reg6_any HA.out rfl rfl hlt (by simp) HC1.out HC2.out ?_
    intro W4 bc bj q qc r rc hb4 hbc hbj ho4 ho5
    simp only [List.setIfInBounds_toArray, List.set_cons_zero, List.set_cons_succ]
    have HB4 := ae (ag HBEL.out hb4)
    have HW4 := ae hb4
    have HBC := ae hbc
    have HBJ := ae hbj
    have HPS := ae ho4.ps
    have HNS := ae (NS.own ho5)
    clear hb4 hbc hbj ho4 ho5 HC1 HC2
    have HJ4 := ae (fun (W : World) (hW : Below W4.heap.size W4 W) => (⟨(let h := H14.out.cfg W (ag HB4.out hW); ⟨h.sites, h.again, h.over, HPS.out.below hW, h.len, h.wf⟩), (let h := HIJ.out W (ag HB4.out hW); ⟨HNS.out.below hW, h.len, h.prog, h.id, h.agg, h.bound, h.fuel, h.parts, h.nums⟩), H14.out.env W (ag HB4.out hW), H14.out.hal W (ag HB4.out hW)⟩ : Job14 W c (.slice q c.splits.length qc) j (.slice r l.length rc) l))
    have HWH := ae (nt c _ j _ l W4 (HJ4.out W4 (Below.refl _ _)))
    obtain ⟨p0, p1, p2, p3⟩ := HBC.out.cells
    obtain ⟨r0, r1, r2, r3, r4, r5, r6⟩ := HBJ.out.cells
    have HRW := ae (fun (W : World) (hW : Below W0.heap.size W0 W) => nC c (.slice sa c.splits.length sc) j (.slice ua l.length uc) l W (H14.out.cfg W hW) (HIJ.out W hW) (Nat.lt_of_lt_of_le H14.out.pos hW.size))
    have HVA := ae (fun (W : World) (hW : Below W4.heap.size W4 W) => gu c _ j _ l W (HJ4.out W hW).cfg (HJ4.out W hW).job (HJ4.out W hW).env)
    have HRV := ae (fun (W : World) (hW : Below W0.heap.size W0 W) => jk c (.slice sa c.splits.length sc) j (.slice ua l.length uc) l W (H14.out.cfg W hW) (HIJ.out W hW) (Nat.lt_of_lt_of_le H14.out.pos hW.size))
    have HCO := ae (fun (W : World) (hW : Below W4.heap.size W4 W) => jcodes_any c _ j _ l W (HJ4.out W hW))
    have HRC := ae (fun (W : World) (hW : Below W0.heap.size W0 W) => rcodes_any c (.slice sa c.splits.length sc) j (.slice ua l.length uc) l W (H14.out.cfg W hW) (HIJ.out W hW) (Nat.lt_of_lt_of_le H14.out.pos hW.size))
    have HEC := ae (fun (W : World) (hW : Below W4.heap.size W4 W) => eqconfig_any c (.slice q c.splits.length qc) (.slice sa c.splits.length sc) W (HPS.out.below hW) (H14.out.cfg W (ag HB4.out hW)).ps HS.out.cfg)
    have HEJ := ae (fun (W : World) (hW : Below W4.heap.size W4 W) => eqjob_any j l (.slice r l.length rc) (.slice ua l.length uc) W (HNS.out.below hW) (HIJ.out W (ag HB4.out hW)).ns (by omega))
    have hcl := codesRes_len c j l
    obtain ⟨⟨ws, we⟩, hR⟩ : ∃ R, R = dV c j l := ⟨_, rfl⟩
    rw [← hR] at HWH HRW
    obtain ⟨ve, hV⟩ : ∃ R, R = al c j l := ⟨_, rfl⟩
    rw [← hV] at HVA HRV
    obtain ⟨cl, hCL⟩ : ∃ R, R = dh c j l := ⟨_, rfl⟩
    rw [← hCL] at HCO HRC hcl
    have HCD := ae (fun (W : World) (v u : Value) (hv : NS W v cl) (hu : NS W u cl) => jd v u cl W hv hu (by omega))
    clear hR hV hCL
    go_wp2_with fail
    refine HWH.out.mono ?_
    rintro e W5 ⟨rfl, hb5⟩
    have HB5 := ae (ag HB4.out hb5)
    have HB45 := ae hb5
    have HSS := ae (show ∀ W : World, Below W5.heap.size W5 W → (W.cell? ⟨w.heap.size, 0, none⟩ = some (.int .i64 c.sites) ∧ W.cell? ⟨w.heap.size, 1, none⟩ = some (.slice sa c.splits.length sc) ∧ W.cell? ⟨w.heap.size, 2, none⟩ = some (.int .i64 c.again) ∧ W.cell? ⟨w.heap.size, 3, none⟩ = some (.int .i64 c.over) ∧ W.cell? ⟨w.heap.size, 5, none⟩ = some (.slice (some ⟨b, off, none⟩) L.length jc) ∧ W.cell? ⟨b, off + k * 7, none⟩ = some (.int .i64 j.id) ∧ W.cell? ⟨b, off + k * 7 + 1, none⟩ = some (.string j.prog) ∧ W.cell? ⟨b, off + k * 7 + 2, none⟩ = some (.int .i64 j.agg) ∧ W.cell? ⟨b, off + k * 7 + 3, none⟩ = some (.int .i64 j.bound) ∧ W.cell? ⟨b, off + k * 7 + 4, none⟩ = some (.int .i64 j.fuel) ∧ W.cell? ⟨b, off + k * 7 + 5, none⟩ = some (.slice ua l.length uc) ∧ W.cell? ⟨b, off + k * 7 + 6, none⟩ = some (.int .i64 j.parts)) ∧ Below W5.heap.size W5 W from fun W hW => by
     obtain ⟨A0, A1, A2, A3, A5, d0, d1, d2, d3, d4, d5, d6⟩ := HA.out W (ag HW4.out (ag HB45.out hW))
     exact ⟨⟨A0, A1, A2, A3, A5, d0, d1, d2, d3, d4, d5, d6⟩, hW⟩)
    have HKEEP := ae (fun (W W' : World) (hn : (W.cell? ⟨w.heap.size, 0, none⟩ = some (.int .i64 c.sites) ∧ W.cell? ⟨w.heap.size, 1, none⟩ = some (.slice sa c.splits.length sc) ∧ W.cell? ⟨w.heap.size, 2, none⟩ = some (.int .i64 c.again) ∧ W.cell? ⟨w.heap.size, 3, none⟩ = some (.int .i64 c.over) ∧ W.cell? ⟨w.heap.size, 5, none⟩ = some (.slice (some ⟨b, off, none⟩) L.length jc) ∧ W.cell? ⟨b, off + k * 7, none⟩ = some (.int .i64 j.id) ∧ W.cell? ⟨b, off + k * 7 + 1, none⟩ = some (.string j.prog) ∧ W.cell? ⟨b, off + k * 7 + 2, none⟩ = some (.int .i64 j.agg) ∧ W.cell? ⟨b, off + k * 7 + 3, none⟩ = some (.int .i64 j.bound) ∧ W.cell? ⟨b, off + k * 7 + 4, none⟩ = some (.int .i64 j.fuel) ∧ W.cell? ⟨b, off + k * 7 + 5, none⟩ = some (.slice ua l.length uc) ∧ W.cell? ⟨b, off + k * 7 + 6, none⟩ = some (.int .i64 j.parts)) ∧ Below W5.heap.size W5 W) (hb : Below W.heap.size W W') => HSS.out W' (ag hn.2 hb))
    obtain ⟨⟨a0, a1, a2, a3, a5, c0, c1, c2, c3, c4, c5, c6⟩, -⟩ := HSS.out W5 (Below.refl _ _)
    clear hb5 p0 p1 p2 p3 r0 r1 r2 r3 r4 r5 r6
    go_wp2_with fail
    go_region_held3 (fun W => (W.cell? ⟨w.heap.size, 0, none⟩ = some (.int .i64 c.sites) ∧ W.cell? ⟨w.heap.size, 1, none⟩ = some (.slice sa c.splits.length sc) ∧ W.cell? ⟨w.heap.size, 2, none⟩ = some (.int .i64 c.again) ∧ W.cell? ⟨w.heap.size, 3, none⟩ = some (.int .i64 c.over) ∧ W.cell? ⟨w.heap.size, 5, none⟩ = some (.slice (some ⟨b, off, none⟩) L.length jc) ∧ W.cell? ⟨b, off + k * 7, none⟩ = some (.int .i64 j.id) ∧ W.cell? ⟨b, off + k * 7 + 1, none⟩ = some (.string j.prog) ∧ W.cell? ⟨b, off + k * 7 + 2, none⟩ = some (.int .i64 j.agg) ∧ W.cell? ⟨b, off + k * 7 + 3, none⟩ = some (.int .i64 j.bound) ∧ W.cell? ⟨b, off + k * 7 + 4, none⟩ = some (.int .i64 j.fuel) ∧ W.cell? ⟨b, off + k * 7 + 5, none⟩ = some (.slice ua l.length uc) ∧ W.cell? ⟨b, off + k * 7 + 6, none⟩ = some (.int .i64 j.parts)) ∧ Below W5.heap.size W5 W)
     (first | with_reducible exact HKEEP.out _ _ (by assumption) (by assumption) | with_reducible exact HSS.out _ (Below.refl _ _).drew)
     (first
      | (go_at_call 19; refine (HRW.out _ (ag HB5.out (by first | exact (‹_ ∧ Below W5.heap.size W5 _›).2 | exact (Below.refl _ _).drew))).mono ?_; rintro e W6 ⟨rfl, hb6⟩))
    have HB6 := ae (ag HB45.out (‹_ ∧ Below W5.heap.size W5 _›).2)
    clear HSS HKEEP
    obtain ⟨p0, p1, p2, p3⟩ := (HBC.out.below HB6.out).cells
    obtain ⟨r0, r1, r2, r3, r4, r5, r6⟩ := (HBJ.out.below HB6.out).cells
    go_wp2_with fail
    refine (HCO.out W6 HB6.out).mono ?_
    rintro e W7 ⟨⟨v7, rfl, ho7⟩, hb7⟩
    have HB7 := ae (ag HB6.out hb7)
    have HB7e := ae (ag HB4.out HB7.out)
    have N7 := ae (NS.own ho7)
    obtain ⟨q7, qc7, rfl⟩ := ho7.shape
    have HCQ := ae (fun (W : World) (z : Option Addr) (zc : Nat) (hW : Below W7.heap.size W7 W) (hz : NS W (.slice z cl.length zc) cl) => (HCD.out W (.slice q7 cl.length qc7) (.slice z cl.length zc) (N7.out.below hW) hz).mono (fun e w' h => (⟨h.1, h.2.below _⟩ : e = .returned (.bool true) ∧ Below W.heap.size W w')))
    have HSS := ae (show ∀ W : World, Below W7.heap.size W7 W → (W.cell? ⟨w.heap.size, 0, none⟩ = some (.int .i64 c.sites) ∧ W.cell? ⟨w.heap.size, 1, none⟩ = some (.slice sa c.splits.length sc) ∧ W.cell? ⟨w.heap.size, 2, none⟩ = some (.int .i64 c.again) ∧ W.cell? ⟨w.heap.size, 3, none⟩ = some (.int .i64 c.over) ∧ W.cell? ⟨w.heap.size, 5, none⟩ = some (.slice (some ⟨b, off, none⟩) L.length jc) ∧ W.cell? ⟨b, off + k * 7, none⟩ = some (.int .i64 j.id) ∧ W.cell? ⟨b, off + k * 7 + 1, none⟩ = some (.string j.prog) ∧ W.cell? ⟨b, off + k * 7 + 2, none⟩ = some (.int .i64 j.agg) ∧ W.cell? ⟨b, off + k * 7 + 3, none⟩ = some (.int .i64 j.bound) ∧ W.cell? ⟨b, off + k * 7 + 4, none⟩ = some (.int .i64 j.fuel) ∧ W.cell? ⟨b, off + k * 7 + 5, none⟩ = some (.slice ua l.length uc) ∧ W.cell? ⟨b, off + k * 7 + 6, none⟩ = some (.int .i64 j.parts) ∧ W.cell? ⟨bc, 0, none⟩ = some (.int .i64 c.sites) ∧ W.cell? ⟨bc, 1, none⟩ = some (.slice q c.splits.length qc) ∧ W.cell? ⟨bc, 2, none⟩ = some (.int .i64 c.again) ∧ W.cell? ⟨bc, 3, none⟩ = some (.int .i64 c.over) ∧ W.cell? ⟨bj, 0, none⟩ = some (.int .i64 j.id) ∧ W.cell? ⟨bj, 1, none⟩ = some (.string j.prog) ∧ W.cell? ⟨bj, 2, none⟩ = some (.int .i64 j.agg) ∧ W.cell? ⟨bj, 3, none⟩ = some (.int .i64 j.bound) ∧ W.cell? ⟨bj, 4, none⟩ = some (.int .i64 j.fuel) ∧ W.cell? ⟨bj, 5, none⟩ = some (.slice r l.length rc) ∧ W.cell? ⟨bj, 6, none⟩ = some (.int .i64 j.parts)) ∧ Below W7.heap.size W7 W from fun W hW => by
     obtain ⟨A0, A1, A2, A3, A5, d0, d1, d2, d3, d4, d5, d6⟩ := HA.out W (ag HW4.out (ag HB7.out hW))
     obtain ⟨p0, p1, p2, p3⟩ := (HBC.out.below (ag HB7.out hW)).cells
     obtain ⟨r0, r1, r2, r3, r4, r5, r6⟩ := (HBJ.out.below (ag HB7.out hW)).cells
     exact ⟨⟨A0, A1, A2, A3, A5, d0, d1, d2, d3, d4, d5, d6, p0, p1, p2, p3, r0, r1, r2, r3, r4, r5, r6⟩, hW⟩)
    have HKEEP := ae (fun (W W' : World) (hn : (W.cell? ⟨w.heap.size, 0, none⟩ = some (.int .i64 c.sites) ∧ W.cell? ⟨w.heap.size, 1, none⟩ = some (.slice sa c.splits.length sc) ∧ W.cell? ⟨w.heap.size, 2, none⟩ = some (.int .i64 c.again) ∧ W.cell? ⟨w.heap.size, 3, none⟩ = some (.int .i64 c.over) ∧ W.cell? ⟨w.heap.size, 5, none⟩ = some (.slice (some ⟨b, off, none⟩) L.length jc) ∧ W.cell? ⟨b, off + k * 7, none⟩ = some (.int .i64 j.id) ∧ W.cell? ⟨b, off + k * 7 + 1, none⟩ = some (.string j.prog) ∧ W.cell? ⟨b, off + k * 7 + 2, none⟩ = some (.int .i64 j.agg) ∧ W.cell? ⟨b, off + k * 7 + 3, none⟩ = some (.int .i64 j.bound) ∧ W.cell? ⟨b, off + k * 7 + 4, none⟩ = some (.int .i64 j.fuel) ∧ W.cell? ⟨b, off + k * 7 + 5, none⟩ = some (.slice ua l.length uc) ∧ W.cell? ⟨b, off + k * 7 + 6, none⟩ = some (.int .i64 j.parts) ∧ W.cell? ⟨bc, 0, none⟩ = some (.int .i64 c.sites) ∧ W.cell? ⟨bc, 1, none⟩ = some (.slice q c.splits.length qc) ∧ W.cell? ⟨bc, 2, none⟩ = some (.int .i64 c.again) ∧ W.cell? ⟨bc, 3, none⟩ = some (.int .i64 c.over) ∧ W.cell? ⟨bj, 0, none⟩ = some (.int .i64 j.id) ∧ W.cell? ⟨bj, 1, none⟩ = some (.string j.prog) ∧ W.cell? ⟨bj, 2, none⟩ = some (.int .i64 j.agg) ∧ W.cell? ⟨bj, 3, none⟩ = some (.int .i64 j.bound) ∧ W.cell? ⟨bj, 4, none⟩ = some (.int .i64 j.fuel) ∧ W.cell? ⟨bj, 5, none⟩ = some (.slice r l.length rc) ∧ W.cell? ⟨bj, 6, none⟩ = some (.int .i64 j.parts)) ∧ Below W7.heap.size W7 W) (hb : Below W.heap.size W W') => HSS.out W' (ag hn.2 hb))
    clear hb7 ho7 p0 p1 p2 p3 r0 r1 r2 r3 r4 r5 r6 a0 a1 a2 a3 a5 c0 c1 c2 c3 c4 c5 c6
    obtain ⟨⟨a0, a1, a2, a3, a5, c0, c1, c2, c3, c4, c5, c6, p0, p1, p2, p3, r0, r1, r2, r3, r4, r5, r6⟩, -⟩ := HSS.out W7 (Below.refl _ _)
    go_wp2_with fail
    go_region_held3 (fun W => (W.cell? ⟨w.heap.size, 0, none⟩ = some (.int .i64 c.sites) ∧ W.cell? ⟨w.heap.size, 1, none⟩ = some (.slice sa c.splits.length sc) ∧ W.cell? ⟨w.heap.size, 2, none⟩ = some (.int .i64 c.again) ∧ W.cell? ⟨w.heap.size, 3, none⟩ = some (.int .i64 c.over) ∧ W.cell? ⟨w.heap.size, 5, none⟩ = some (.slice (some ⟨b, off, none⟩) L.length jc) ∧ W.cell? ⟨b, off + k * 7, none⟩ = some (.int .i64 j.id) ∧ W.cell? ⟨b, off + k * 7 + 1, none⟩ = some (.string j.prog) ∧ W.cell? ⟨b, off + k * 7 + 2, none⟩ = some (.int .i64 j.agg) ∧ W.cell? ⟨b, off + k * 7 + 3, none⟩ = some (.int .i64 j.bound) ∧ W.cell? ⟨b, off + k * 7 + 4, none⟩ = some (.int .i64 j.fuel) ∧ W.cell? ⟨b, off + k * 7 + 5, none⟩ = some (.slice ua l.length uc) ∧ W.cell? ⟨b, off + k * 7 + 6, none⟩ = some (.int .i64 j.parts) ∧ W.cell? ⟨bc, 0, none⟩ = some (.int .i64 c.sites) ∧ W.cell? ⟨bc, 1, none⟩ = some (.slice q c.splits.length qc) ∧ W.cell? ⟨bc, 2, none⟩ = some (.int .i64 c.again) ∧ W.cell? ⟨bc, 3, none⟩ = some (.int .i64 c.over) ∧ W.cell? ⟨bj, 0, none⟩ = some (.int .i64 j.id) ∧ W.cell? ⟨bj, 1, none⟩ = some (.string j.prog) ∧ W.cell? ⟨bj, 2, none⟩ = some (.int .i64 j.agg) ∧ W.cell? ⟨bj, 3, none⟩ = some (.int .i64 j.bound) ∧ W.cell? ⟨bj, 4, none⟩ = some (.int .i64 j.fuel) ∧ W.cell? ⟨bj, 5, none⟩ = some (.slice r l.length rc) ∧ W.cell? ⟨bj, 6, none⟩ = some (.int .i64 j.parts)) ∧ Below W7.heap.size W7 W)
     (first | with_reducible assumption | with_reducible exact HKEEP.out _ _ (by assumption) (by assumption) | with_reducible exact HSS.out _ (Below.refl _ _).drew)
     (first
      | (go_at_call 10; refine (HN.out _ _).mono ?_; rintro e W9 ⟨rfl, hw9⟩; subst W9)
      | (go_at_call 21; refine (HVA.out _ (ag HB7.out (by first | exact (‹_ ∧ Below W7.heap.size W7 _›).2 | exact (Below.refl _ _).drew))).mono ?_; rintro e W8 ⟨rfl, hb8⟩)
      | (go_at_call 22; refine (HRV.out _ (ag HB7e.out (by first | exact (‹_ ∧ Below W7.heap.size W7 _›).2 | exact (Below.refl _ _).drew))).mono ?_; rintro e W8 ⟨rfl, hb8⟩)
      | (go_at_call 24; refine (HRC.out _ (ag HB7e.out (by first | exact (‹_ ∧ Below W7.heap.size W7 _›).2 | exact (Below.refl _ _).drew))).mono ?_; rintro e W8 ⟨⟨v8, rfl, ho8⟩, hb8⟩; have n8 := ae (NS.own ho8); obtain ⟨z8, zc8, rfl⟩ := ho8.shape; clear ho8)
      | (go_at_call 23; refine (HCQ.out _ z8 zc8 (by first | exact (‹_ ∧ Below W7.heap.size W7 _›).2 | exact (Below.refl _ _).drew) n8.out).mono ?_; rintro e W8 ⟨rfl, hb8⟩)
      | (go_at_call 25; refine (HEC.out _ (ag HB7.out (by first | exact (‹_ ∧ Below W7.heap.size W7 _›).2 | exact (Below.refl _ _).drew))).mono ?_; rintro e W8 ⟨rfl, hb8⟩)
      | (go_at_call 13; refine (HEJ.out _ (ag HB7.out (by first | exact (‹_ ∧ Below W7.heap.size W7 _›).2 | exact (Below.refl _ _).drew))).mono ?_; rintro e W8 ⟨rfl, hb8⟩))
    have HBE := ae (ag HB7e.out (‹_ ∧ Below W7.heap.size W7 _›).2)
    clear HSS HKEEP
    go_wp2
    go_roundw
    case rel => exact ⟨k + 1, by omega, by go_num, HBE.out⟩
    case measure => simp [intOf]; omega
   ·have hcs : (k < L.length ∧ ¬ k < 6) ∨ ¬ k < L.length := by omega
    clear hbel
    rcases hcs with ⟨hkl, hk6⟩ | hkl
    all_goals
     first
      | (have hkli : (k : Int) < (L.length : Int) := by omega
         have hk6i : ¬ (k : Int) < 6 := by omega
         go_wp2_with fail)
      | (have hkli : ¬ (k : Int) < (L.length : Int) := by omega
         go_wp2_with fail)
     refine (wakes14_any _ (H14.out.env _ HBEL.out) (H14.out.hal _ HBEL.out)).mono ?_
     rintro e W8 ⟨rfl, hb8⟩
     go_wp2
     go_ret
     exact ⟨rfl, ag H14.out.low (ag HBEL.out hb8)⟩
end Go.Proofs.YtclcgakfmcofaaaGreatDoor
