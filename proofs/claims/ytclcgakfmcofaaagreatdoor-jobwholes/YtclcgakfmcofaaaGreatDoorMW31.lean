/- Texts laid together: JVal, MOkP. -/
import Derived.Test.YtclcgakfmcofaaaGreatDoorMW28
import Derived.Test.YtclcgakfmcofaaaGreatDoorMW29
import Derived.Test.YtclcgakfmcofaaaGreatDoorMW30
import Derived.Test.YtclcgakfmcofaaaGreatDoorMW23
import Derived.Test.YtclcgakfmcofaaaGreatDoorMW12
import Derived.Test.YtclcgakfmcofaaaGreatDoorMW15
import Derived.Test.YtclcgakfmcofaaaGreatDoorMW20
import Derived.Test.YtclcgakfmcofaaaGreatDoorMW9
set_option linter.unusedVariables false
set_option maxRecDepth 100000
set_option maxHeartbeats 1600000
namespace Go.Proofs.YtclcgakfmcofaaaGreatDoor
open Go.RowKit
theorem ni (W : World) (x : Int) : NS (W.alloc (.cells #[.int .i64 x] 3)) (.slice (some ⟨W.heap.size, 0, none⟩) 1 1) [x] := ⟨_, _, rfl, .inr ⟨W.heap.size, 0, rfl, by simp, fun i y hy => by
  cases i with
  | zero =>
   simp at hy
   subst hy
   show (match (W.alloc (.cells #[.int .i64 x] 3)).heap[W.heap.size]? with | some (Obj.cells c _ _) => c[0]? | _ => none) = _
   rw [heap_alloc_new W (.cells #[.int .i64 x] 3)]
   rfl
  | succ i => simp at hy⟩⟩
abbrev gq (c : aX) (v : Value) : Obj := .cells #[.int .i64 c.sites, v, .int .i64 c.again, .int .i64 c.over] 24
theorem ph (c : aX) (v : Value) (i : Int) (w : World) (h : nG w c v) : Calls Tryz.prog 86 #[cL c v, .int .i64 i] w fun e w' => (∃ v', e = .returned v' ∧ bq w' w.heap.size v' (dH c i)) ∧ Below w.heap.size w w' := by
 obtain ⟨va, vc, rfl, -⟩ := h.ps
 obtain ⟨W0, hW0⟩ : ∃ W0 : World, W0 = w.alloc (gq c (.slice va c.splits.length vc)) := ⟨_, rfl⟩
 have hb0 : Below w.heap.size w W0 := by rw [hW0]; exact dN w _
 have B0 : dg W0 w.heap.size (.int .i64 c.sites) (.slice va c.splits.length vc) (.int .i64 c.again) (.int .i64 c.over) := by rw [hW0]; exact dg.new w _ _ _ _
 have hb1 := dN W0 (.cells #[.int .i64 i] 3)
 have HR := ae (ng c _ (.slice (some ⟨W0.heap.size, 0, none⟩) 1 1) [i] (W0.alloc (.cells #[.int .i64 i] 3)) ((h.below hb0).below hb1) (ni W0 i) (by simp))
 obtain ⟨r0, r1, r2, r3⟩ := B0.cells
 have hsz : W0.heap.size = w.heap.size + 1 := by rw [hW0]; simp
 rw [hsz] at HR
 have HW := ae hW0.symm
 have HB0 := ae (ag hb0 hb1)
 have HSZ := ae hsz
 have hrc : (cV c [i]).1 = dH c i := rfl
 rw [hrc] at HR
 obtain ⟨E, hE⟩ : ∃ E, E = (cV c [i]).2 := ⟨_, rfl⟩
 rw [← hE] at HR
 clear hW0 hb0 hb1 B0 h hsz hrc hE
 go_enter Tryz.func86, Tryz.ntmps86
 go_wp2_with fail
 rw [HW.out]
 refine HR.out.mono ?_
 rintro e W1 ⟨⟨v1, rfl, ho⟩, hb⟩
 have HF := ae (ag HB0.out hb)
 have HO := ae (bq.down ho HB0.out.size)
 obtain ⟨a1, c1, rfl, -⟩ := id (RS.own ho)
 clear ho hb
 go_wp2
 go_ret
 exact ⟨⟨_, rfl, HO.out⟩, HF.out⟩
theorem di {c : aX} {j : Jb} {l : List Int} (h : (cU c && fL j l) = false) : al c j l = 1 := by unfold al; rw [if_pos h]
theorem gt {c : aX} {j : Jb} {l : List Int} (h : (cU c && fL j l) = true) {e : Int} (hp : cG j.prog (.err e)) : al c j l = e := by unfold al; rw [if_neg (by rw [h]; decide), eD hp]
theorem iJ {c : aX} {j : Jb} {l : List Int} (h : (cU c && fL j l) = true) {f : Fo} {ws : List (List UInt8)} {m : Nat} (hp : cG j.prog (.ok f ws m)) (hc : cE f ≠ 0) : al c j l = cE f := by unfold al; rw [if_neg (by rw [h]; decide), eD hp]; simp only; rw [if_pos hc]
theorem fq {c : aX} {j : Jb} {l : List Int} (h : (cU c && fL j l) = true) {f : Fo} {ws : List (List UInt8)} {m : Nat} (hp : cG j.prog (.ok f ws m)) (hc : cE f = 0) : al c j l = (aR c.splits l).2 := by unfold al; rw [if_neg (by rw [h]; decide), eD hp]; simp only; rw [if_neg (by simpa using hc)]
theorem gu (c : aX) (v : Value) (j : Jb) (u : Value) (l : List Int) (w : World) (hc : nG w c v) (hj : InJ w j u l) (hE : iu w) : Calls Tryz.prog 21 #[cL c v, cJ j u] w fun e w' => e = .returned (.int .i64 (al c j l)) ∧ Below w.heap.size w w' := by
 obtain ⟨va, vc, rfl, -⟩ := hc.ps
 obtain ⟨ua, uc, rfl⟩ := hj.slice
 obtain ⟨W0, hW0⟩ : ∃ W0 : World, W0 = (w.alloc (gq c (.slice va c.splits.length vc))).alloc (.cells #[.int .i64 j.id, .string j.prog, .int .i64 j.agg, .int .i64 j.bound, .int .i64 j.fuel, .slice ua l.length uc, .int .i64 j.parts] 37) := ⟨_, rfl⟩
 have hb0 : Below w.heap.size w W0 := by rw [hW0]; exact ag (dN w _) (dN _ _)
 have B0 : dg W0 w.heap.size (.int .i64 c.sites) (.slice va c.splits.length vc) (.int .i64 c.again) (.int .i64 c.over) := by rw [hW0]; exact (dg.new w _ _ _ _).below (dN _ _)
 have B1 : aG W0 (w.heap.size + 1) (.int .i64 j.id) (.string j.prog) (.int .i64 j.agg) (.int .i64 j.bound) (.int .i64 j.fuel) (.slice ua l.length uc) (.int .i64 j.parts) := by rw [hW0]; simpa using aG.new (w.alloc (gq c (.slice va c.splits.length vc))) (.int .i64 j.id) (.string j.prog) (.int .i64 j.agg) (.int .i64 j.bound) (.int .i64 j.fuel) (.slice ua l.length uc) (.int .i64 j.parts)
 have HCF := ae (show ∀ W, Below W0.heap.size W0 W → W.cell? ⟨w.heap.size, 0, none⟩ = some (.int .i64 c.sites) ∧ W.cell? ⟨w.heap.size, 1, none⟩ = some (.slice va c.splits.length vc) ∧ W.cell? ⟨w.heap.size, 2, none⟩ = some (.int .i64 c.again) ∧ W.cell? ⟨w.heap.size, 3, none⟩ = some (.int .i64 c.over) from fun W hW => (B0.below hW).cells)
 have HJF := ae (show ∀ W, Below W0.heap.size W0 W → W.cell? ⟨w.heap.size + 1, 0, none⟩ = some (.int .i64 j.id) ∧ W.cell? ⟨w.heap.size + 1, 1, none⟩ = some (.string j.prog) ∧ W.cell? ⟨w.heap.size + 1, 2, none⟩ = some (.int .i64 j.agg) ∧ W.cell? ⟨w.heap.size + 1, 3, none⟩ = some (.int .i64 j.bound) ∧ W.cell? ⟨w.heap.size + 1, 4, none⟩ = some (.int .i64 j.fuel) ∧ W.cell? ⟨w.heap.size + 1, 5, none⟩ = some (.slice ua l.length uc) ∧ W.cell? ⟨w.heap.size + 1, 6, none⟩ = some (.int .i64 j.parts) from fun W hW => (B1.below hW).cells)
 have HCC := ae (fun (W : World) (hW : Below W0.heap.size W0 W) => lE c _ W ((hc.below hb0).below hW))
 have HJC := ae (fun (W : World) (hW : Below W0.heap.size W0 W) => jcheck_any j (.slice ua l.length uc) l W ((hj.ns.below hb0).below hW) hj.len)
 have HPA := ae (fun (W : World) (hW : Below W0.heap.size W0 W) => pg j.prog W (by have := hj.prog; omega) ((hE.low hb0).low hW))
 have HRE := ae (fun (W : World) (hW : Below W0.heap.size W0 W) (h6 : l.length ≤ 6) => ng c _ (.slice ua l.length uc) l W ((hc.below hb0).below hW) ((hj.ns.below hb0).below hW) (by omega))
 have HW := ae hW0.symm
 have HB := ae hb0
 have HRF := ae (Below.refl W0.heap.size W0)
 obtain ⟨r0, r1, r2, r3⟩ := HCF.out W0 HRF.out
 clear hW0 hb0 B0 B1 hc hj hE
 unfold eS at HCC
 cases hcb : cU c with
 | false =>
  have HV := ae (di (c := c) (j := j) (l := l) (by rw [hcb]; rfl))
  rw [hcb] at HCC
  simp only [Bool.false_eq_true, if_false] at HCC
  go_enter Tryz.func21, Tryz.ntmps21
  go_wp2_with fail
  rw [HW.out]
  refine (HCC.out W0 HRF.out).mono ?_
  rintro e W1 ⟨rfl, hb1⟩
  go_wp2
  go_ret
  exact ⟨by rw [HV.out]; rfl, ag HB.out hb1⟩
 | true =>
  rw [hcb] at HCC
  simp only [if_true] at HCC
  cases hjb : fL j l with
  | false =>
   have HV := ae (di (c := c) (j := j) (l := l) (by rw [hcb, hjb]; rfl))
   rw [hjb] at HJC
   go_enter Tryz.func21, Tryz.ntmps21
   go_wp2_with fail
   rw [HW.out]
   refine (HCC.out W0 HRF.out).mono ?_
   rintro e W1 ⟨rfl, hb1⟩
   obtain ⟨j0, j1, j2, j3, j4, j5, j6⟩ := HJF.out W1 hb1
   go_wp2_with fail
   refine (HJC.out W1 hb1).mono ?_
   rintro e W2 ⟨rfl, hb2⟩
   rw [show iz false = 1 from rfl]
   go_wp2
   go_ret
   exact ⟨by rw [HV.out]; rfl, ag (ag HB.out hb1) hb2⟩
  | true =>
   have hm : (cU c && fL j l) = true := by rw [hcb, hjb]; rfl
   have HM := ae hm
   have hl6 := (fk hjb).len.2
   have HRL := ae (nf hcb l)
   rw [hjb] at HJC
   clear hm hcb hjb
   go_enter Tryz.func21, Tryz.ntmps21
   go_wp2_with fail
   rw [HW.out]
   refine (HCC.out W0 HRF.out).mono ?_
   rintro e W1 ⟨rfl, hb1⟩
   obtain ⟨j0, j1, j2, j3, j4, j5, j6⟩ := HJF.out W1 hb1
   have HB1 := ae hb1
   clear hb1
   go_wp2_with fail
   refine (HJC.out W1 HB1.out).mono ?_
   rintro e W2 ⟨rfl, hb2⟩
   have HB2 := ae (ag HB1.out hb2)
   rw [show iz true = 0 from rfl]
   obtain ⟨j0, j1, j2, j3, j4, j5, j6⟩ := HJF.out W2 HB2.out
   clear hb2
   go_wp2_with fail
   refine (HPA.out W2 HB2.out).mono ?_
   rintro e W3 ⟨r, hr, hb3, hres⟩
   have HB3 := ae (ag HB2.out hb3)
   have HR := ae hr
   cases r with
   | err x =>
    obtain ⟨rfl, hx0⟩ := hres
    have hbe : (x != 0) = true := by simpa using hx0
    have hbe2 : (x == 0) = false := by simpa using hx0
    have HV := ae (gt HM.out HR.out)
    clear hx0 hr hb3
    go_wp2
    go_ret
    exact ⟨by rw [HV.out]; rfl, ag HB.out HB3.out⟩
   | ok f ws m =>
    obtain ⟨v1, rfl, hown⟩ := hres
    obtain ⟨hMay, hWN, hln, hWB⟩ := ir hr
    have hfs : FS QA W3 v1 f := hown.fs.arg
    obtain ⟨a1, c1, rfl⟩ := hfs.val
    have HCK := ae (mJ f _ W3 hfs hln hWB)
    clear hr hb3 hfs hown hMay hWN hln hWB
    by_cases hce : cE f = 0
    ·have HV := ae (fq HM.out HR.out hce)
     rw [hce] at HCK
     clear hce
     go_wp2_with fail
     refine HCK.out.mono ?_
     rintro e W4 ⟨rfl, hb4⟩
     have HB4 := ae (ag HB3.out hb4)
     obtain ⟨q0, q1, q2, q3⟩ := HCF.out W4 HB4.out
     obtain ⟨j0, j1, j2, j3, j4, j5, j6⟩ := HJF.out W4 HB4.out
     clear hb4
     go_wp2_with fail
     refine (HRE.out W4 HB4.out hl6).mono ?_
     rw [HRL.out]
     rintro e W5 ⟨⟨v5, rfl, -⟩, hb5⟩
     go_wp2
     go_ret
     exact ⟨by rw [HV.out]; rfl, ag HB.out (ag HB4.out hb5)⟩
    ·have HV := ae (iJ HM.out HR.out hce)
     have hbe : (cE f != 0) = true := by simpa using hce
     have hbe2 : (cE f == 0) = false := by simpa using hce
     generalize cE f = x at HCK HV hbe hbe2
     clear hce
     go_wp2_with fail
     refine HCK.out.mono ?_
     rintro e W4 ⟨rfl, hb4⟩
     go_wp2
     go_ret
     exact ⟨by rw [HV.out]; rfl, ag HB.out (ag HB3.out hb4)⟩
theorem pl_err : ∀ (fu d : Nat) (ws : List (List UInt8)) (m : Nat) (c : Int), pl fu d ws m = some (.err c) → c ≠ 0 := by
 intro fu
 induction fu with
 | zero => intro d ws m c h; simp [pl] at h
 | succ fu ih =>
  intro d ws m c h
  cases ws with
  | nil =>
   rw [pl] at h
   split at h
   ·injection h with h; injection h with h; omega
   ·injection h with h; cases h
  | cons w ws =>
   rw [pl] at h
   by_cases h1 : w = ee ∧ 0 < d
   ·rw [if_pos h1] at h; injection h with h; cases h
   rw [if_neg h1] at h
   cases ho : gL w with
   | none => rw [ho] at h; simp only at h; injection h with h; injection h with h; omega
   | some kn =>
    obtain ⟨k, n⟩ := kn
    rw [ho] at h
    simp only at h
    by_cases h2 : m = 128
    ·rw [if_pos h2] at h; injection h with h; injection h with h; omega
    rw [if_neg h2] at h
    cases hb : bm k with
    | false =>
     rw [hb, if_neg (by simp)] at h
     cases hp : pl fu d ws (m + 1) with
     | none => rw [hp] at h; simp at h
     | some r' =>
      rw [hp] at h
      cases r' with
      | err e =>
       simp only [Option.map_some, Rs.pre] at h
       injection h with h
       injection h with h
       subst h
       exact ih _ _ _ _ hp
      | ok f w2 m2 => simp only [Option.map_some, Rs.pre] at h; injection h with h; cases h
    | true =>
     rw [hb, if_pos rfl] at h
     cases ws with
     | nil => simp only at h; injection h with h; injection h with h; omega
     | cons x ws =>
      simp only at h
      by_cases h3 : x ≠ fh
      ·rw [if_pos h3] at h; injection h with h; injection h with h; omega
      rw [if_neg h3] at h
      by_cases h4 : 6 < d + 1
      ·rw [if_pos h4] at h; injection h with h; injection h with h; omega
      rw [if_neg h4] at h
      cases hp : pl fu (d + 1) ws (m + 1) with
      | none => rw [hp] at h; simp at h
      | some r' =>
       rw [hp] at h
       cases r' with
       | err e =>
        simp only at h
        injection h with h
        injection h with h
        subst h
        exact ih _ _ _ _ hp
       | ok f w2 m2 =>
        simp only at h
        cases hq : pl fu d w2 m2 with
        | none => rw [hq] at h; simp at h
        | some r2 =>
         rw [hq] at h
         cases r2 with
         | err e =>
          simp only [Option.map_some, Rs.pre] at h
          injection h with h
          injection h with h
          subst h
          exact ih _ _ _ _ hq
         | ok f2 w3 m3 => simp only [Option.map_some, Rs.pre] at h; injection h with h; cases h
theorem progOf_err {s : ByteArray} {c : Int} (h : dw s = .err c) : c ≠ 0 := by
 unfold dw at h
 by_cases he : ∃ r, cG s r
 ·rw [dif_pos he] at h
  have hp := Classical.choose_spec he
  rw [h] at hp
  unfold cG at hp
  split at hp
  ·injection hp with hp; omega
  ·obtain ⟨fu, hp⟩ := hp
   exact pl_err _ _ _ _ _ hp
 ·rw [dif_neg he] at h
  injection h with h
  omega
theorem progOf_prog {s : ByteArray} {f : Fo} {ws : List (List UInt8)} {m : Nat} (h : dw s = .ok f ws m) : cG s (.ok f ws m) := by
 unfold dw at h
 by_cases he : ∃ r, cG s r
 ·rw [dif_pos he] at h
  have hp := Classical.choose_spec he
  rw [h] at hp
  exact hp
 ·rw [dif_neg he] at h
  cases h
theorem pj {f : Fo} {fu : Int} (hw : WfN f) : ∀ (l acc : List Rc), (∀ x ∈ l, Wr x ∧ x.1.2.size ≤ 64) → (∀ x ∈ acc, Wr x ∧ x.1.2.size ≤ 64) → ∀ x ∈ (iB f fu l acc).1, Wr x ∧ x.1.2.size ≤ 64
 | [], acc, _, ha => ha
 | x :: l, acc, hl, ha => by
  rw [iB]
  split
  ·simp
  ·split
   ·simp
   ·refine pj hw l _ (fun y hy => hl y (List.mem_cons_of_mem _ hy)) fun y hy => ?_
    rcases List.mem_append.1 hy with hy | hy
    ·exact ha y hy
    ·obtain ⟨h1, h2⟩ := runR_wf fu hw (hl x (List.mem_cons_self ..)).1 y hy
     exact ⟨h1, by rw [h2]; exact (hl x (List.mem_cons_self ..)).2⟩
structure MapOk (j : Jb) (l M : List Rc) : Prop where
 way : aJ j.agg j.bound = true
 wf : Wf M
 keys : aU M = true
 len : M.length ≤ 256
theorem kU {j : Jb} {l : List Rc} (hl : Wf l) (h : (ap j l).2 = 0) : MapOk j l (ap j l).1 := by
 have hlen := mapP_len (dw j.prog) j.agg j.bound j.fuel l
 unfold ap at h ⊢
 cases hp : dw j.prog with
 | err c =>
  rw [hp] at h
  exact absurd h (progOf_err hp)
 | ok f ws m =>
  obtain ⟨hMay, hWN, -, -⟩ := ir (progOf_prog hp)
  rw [hp] at h hlen
  unfold jT at h hlen ⊢
  simp only at h hlen ⊢
  by_cases h1 : cE f ≠ 0
  ·rw [if_pos h1] at h; exact absurd h h1
  ·rw [if_neg h1] at h hlen ⊢
   by_cases h2 : gd j.agg j.bound j.fuel l = true
   ·rw [if_pos h2] at h hlen ⊢
    unfold gd at h2
    simp only [Bool.and_eq_true] at h2
    obtain ⟨g1, -, -, g4⟩ := h2
    have hf := pj (fu := j.fuel) hWN l [] (fun x hx => ⟨hl x hx, by
     unfold aU at g4
     rw [List.all_eq_true] at g4
     exact of_decide_eq_true (g4 x hx)⟩) (by simp)
    refine ⟨g1, fun x hx => (hf x hx).1, ?_, hlen⟩
    unfold aU
    rw [List.all_eq_true]
    exact fun x hx => decide_eq_true (hf x hx).2
   ·rw [if_neg h2] at h
    exact absurd h (by decide)
end Go.Proofs.YtclcgakfmcofaaaGreatDoor
