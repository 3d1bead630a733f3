/- Texts laid together: JVal, MOkP. -/
import Derived.Test.YtclcgakfmcofaaaGreatDoorMC28
import Derived.Test.YtclcgakfmcofaaaGreatDoorMC29
import Derived.Test.YtclcgakfmcofaaaGreatDoorMC30
import Derived.Test.YtclcgakfmcofaaaGreatDoorMC23
import Derived.Test.YtclcgakfmcofaaaGreatDoorMC12
import Derived.Test.YtclcgakfmcofaaaGreatDoorMC15
import Derived.Test.YtclcgakfmcofaaaGreatDoorMC20
import Derived.Test.YtclcgakfmcofaaaGreatDoorMC9
namespace Go.Proofs.YtclcgakfmcofaaaGreatDoor
open Go.RowKit
set_option linter.unusedVariables false
set_option maxRecDepth 100000
theorem ns_one (W : World) (x : Int) : NS (W.alloc (.cells #[.int .i64 x] 3)) (.slice (some ⟨W.heap.size, 0, none⟩) 1 1) [x] := ⟨_, _, rfl, .inr ⟨W.heap.size, 0, rfl, by simp, fun i y hy => by
  cases i with
  | zero =>
   simp at hy
   subst hy
   show (match (W.alloc (.cells #[.int .i64 x] 3)).heap[W.heap.size]? with | some (Obj.cells c _ _) => c[0]? | _ => none) = _
   rw [heap_alloc_new W (.cells #[.int .i64 x] 3)]
   rfl
  | succ i => simp at hy⟩⟩
abbrev cfgO (c : Cfg) (v : Value) : Obj := .cells #[.int .i64 c.sites, v, .int .i64 c.again, .int .i64 c.over] 24
set_option maxHeartbeats 800000 in
theorem jrecs_any (c : Cfg) (v : Value) (i : Int) (w : World) (h : InC w c v) : Calls Tryz.prog 86 #[cfgV c v, .int .i64 i] w fun e w' => (∃ v', e = .returned v' ∧ OwnR w' w.heap.size v' (rcO c i)) ∧ Below w.heap.size w w' := by
 obtain ⟨va, vc, rfl, -⟩ := h.ps
 obtain ⟨W0, hW0⟩ : ∃ W0 : World, W0 = w.alloc (cfgO c (.slice va c.splits.length vc)) := ⟨_, rfl⟩
 have hb0 : Below w.heap.size w W0 := by rw [hW0]; exact stJ w _
 have B0 : BlkF W0 w.heap.size (.int .i64 c.sites) (.slice va c.splits.length vc) (.int .i64 c.again) (.int .i64 c.over) := by rw [hW0]; exact BlkF.new w _ _ _ _
 have hb1 := stJ W0 (.cells #[.int .i64 i] 3)
 have HR := hidM (recs12_any c _ (.slice (some ⟨W0.heap.size, 0, none⟩) 1 1) [i] (W0.alloc (.cells #[.int .i64 i] 3)) ((h.below hb0).below hb1) (ns_one W0 i) (by simp))
 obtain ⟨r0, r1, r2, r3⟩ := B0.cells
 have hsz : W0.heap.size = w.heap.size + 1 := by rw [hW0]; simp
 rw [hsz] at HR
 have HW := hidM hW0.symm
 have HB0 := hidM (nxt hb0 hb1)
 have HSZ := hidM hsz
 have hrc : (recsRes c [i]).1 = rcO c i := rfl
 rw [hrc] at HR
 obtain ⟨E, hE⟩ : ∃ E, E = (recsRes c [i]).2 := ⟨_, rfl⟩
 rw [← hE] at HR
 clear hW0 hb0 hb1 B0 h hsz hrc hE
 go_enter Tryz.func86, Tryz.ntmps86
 go_wp2_with fail
 rw [HW.out]
 refine HR.out.mono ?_
 rintro e W1 ⟨⟨v1, rfl, ho⟩, hb⟩
 have HF := hidM (nxt HB0.out hb)
 have HO := hidM (OwnR.down ho HB0.out.size)
 obtain ⟨a1, c1, rfl, -⟩ := id (RS.own ho)
 clear ho hb
 go_wp2
 go_ret
 exact ⟨⟨_, rfl, HO.out⟩, HF.out⟩
theorem validRes_form {c : Cfg} {j : Jb} {l : List Int} (h : (cfgB c && jobB j l) = false) : validRes c j l = 1 := by unfold validRes; rw [if_pos h]
theorem validRes_err {c : Cfg} {j : Jb} {l : List Int} (h : (cfgB c && jobB j l) = true) {e : Int} (hp : Prog j.prog (.err e)) : validRes c j l = e := by unfold validRes; rw [if_neg (by rw [h]; decide), progOf_eq hp]
theorem validRes_need {c : Cfg} {j : Jb} {l : List Int} (h : (cfgB c && jobB j l) = true) {f : Fo} {ws : List (List UInt8)} {m : Nat} (hp : Prog j.prog (.ok f ws m)) (hc : cE f ≠ 0) : validRes c j l = cE f := by unfold validRes; rw [if_neg (by rw [h]; decide), progOf_eq hp]; simp only; rw [if_pos hc]
theorem validRes_recs {c : Cfg} {j : Jb} {l : List Int} (h : (cfgB c && jobB j l) = true) {f : Fo} {ws : List (List UInt8)} {m : Nat} (hp : Prog j.prog (.ok f ws m)) (hc : cE f = 0) : validRes c j l = (recsL c.splits l).2 := by unfold validRes; rw [if_neg (by rw [h]; decide), progOf_eq hp]; simp only; rw [if_neg (by simpa using hc)]
set_option maxHeartbeats 1600000 in
theorem jvalid_any (c : Cfg) (v : Value) (j : Jb) (u : Value) (l : List Int) (w : World) (hc : InC w c v) (hj : InJ w j u l) (hE : Env w) : Calls Tryz.prog 21 #[cfgV c v, jobV j u] w fun e w' => e = .returned (.int .i64 (validRes c j l)) ∧ Below w.heap.size w w' := by
 obtain ⟨va, vc, rfl, -⟩ := hc.ps
 obtain ⟨ua, uc, rfl⟩ := hj.slice
 obtain ⟨W0, hW0⟩ : ∃ W0 : World, W0 = (w.alloc (cfgO c (.slice va c.splits.length vc))).alloc (.cells #[.int .i64 j.id, .string j.prog, .int .i64 j.agg, .int .i64 j.bound, .int .i64 j.fuel, .slice ua l.length uc, .int .i64 j.parts] 37) := ⟨_, rfl⟩
 have hb0 : Below w.heap.size w W0 := by rw [hW0]; exact nxt (stJ w _) (stJ _ _)
 have B0 : BlkF W0 w.heap.size (.int .i64 c.sites) (.slice va c.splits.length vc) (.int .i64 c.again) (.int .i64 c.over) := by rw [hW0]; exact (BlkF.new w _ _ _ _).below (stJ _ _)
 have B1 : Blk7 W0 (w.heap.size + 1) (.int .i64 j.id) (.string j.prog) (.int .i64 j.agg) (.int .i64 j.bound) (.int .i64 j.fuel) (.slice ua l.length uc) (.int .i64 j.parts) := by rw [hW0]; simpa using Blk7.new (w.alloc (cfgO c (.slice va c.splits.length vc))) (.int .i64 j.id) (.string j.prog) (.int .i64 j.agg) (.int .i64 j.bound) (.int .i64 j.fuel) (.slice ua l.length uc) (.int .i64 j.parts)
 have HCF := hidM (show ∀ W, Below W0.heap.size W0 W → W.cell? ⟨w.heap.size, 0, none⟩ = some (.int .i64 c.sites) ∧ W.cell? ⟨w.heap.size, 1, none⟩ = some (.slice va c.splits.length vc) ∧ W.cell? ⟨w.heap.size, 2, none⟩ = some (.int .i64 c.again) ∧ W.cell? ⟨w.heap.size, 3, none⟩ = some (.int .i64 c.over) from fun W hW => (B0.below hW).cells)
 have HJF := hidM (show ∀ W, Below W0.heap.size W0 W → W.cell? ⟨w.heap.size + 1, 0, none⟩ = some (.int .i64 j.id) ∧ W.cell? ⟨w.heap.size + 1, 1, none⟩ = some (.string j.prog) ∧ W.cell? ⟨w.heap.size + 1, 2, none⟩ = some (.int .i64 j.agg) ∧ W.cell? ⟨w.heap.size + 1, 3, none⟩ = some (.int .i64 j.bound) ∧ W.cell? ⟨w.heap.size + 1, 4, none⟩ = some (.int .i64 j.fuel) ∧ W.cell? ⟨w.heap.size + 1, 5, none⟩ = some (.slice ua l.length uc) ∧ W.cell? ⟨w.heap.size + 1, 6, none⟩ = some (.int .i64 j.parts) from fun W hW => (B1.below hW).cells)
 have HCC := hidM (fun (W : World) (hW : Below W0.heap.size W0 W) => check12_any c _ W ((hc.below hb0).below hW))
 have HJC := hidM (fun (W : World) (hW : Below W0.heap.size W0 W) => jcheck_any j (.slice ua l.length uc) l W ((hj.ns.below hb0).below hW) hj.len)
 have HPA := hidM (fun (W : World) (hW : Below W0.heap.size W0 W) => parse_any j.prog W (by have := hj.prog; omega) ((hE.low hb0).low hW))
 have HRE := hidM (fun (W : World) (hW : Below W0.heap.size W0 W) (h6 : l.length ≤ 6) => recs12_any c _ (.slice ua l.length uc) l W ((hc.below hb0).below hW) ((hj.ns.below hb0).below hW) (by omega))
 have HW := hidM hW0.symm
 have HB := hidM hb0
 have HRF := hidM (Below.refl W0.heap.size W0)
 obtain ⟨r0, r1, r2, r3⟩ := HCF.out W0 HRF.out
 clear hW0 hb0 B0 B1 hc hj hE
 unfold checkRes at HCC
 cases hcb : cfgB c with
 | false =>
  have HV := hidM (validRes_form (c := c) (j := j) (l := l) (by rw [hcb]; rfl))
  rw [hcb] at HCC
  simp only [Bool.false_eq_true, if_false] at HCC
  go_enter Tryz.func21, Tryz.ntmps21
  go_wp2_with fail
  rw [HW.out]
  refine (HCC.out W0 HRF.out).mono ?_
  rintro e W1 ⟨rfl, hb1⟩
  go_wp2
  go_ret
  exact ⟨by rw [HV.out]; rfl, nxt HB.out hb1⟩
 | true =>
  rw [hcb] at HCC
  simp only [if_true] at HCC
  cases hjb : jobB j l with
  | false =>
   have HV := hidM (validRes_form (c := c) (j := j) (l := l) (by rw [hcb, hjb]; rfl))
   rw [hjb] at HJC
   go_enter Tryz.func21, Tryz.ntmps21
   go_wp2_with fail
   rw [HW.out]
   refine (HCC.out W0 HRF.out).mono ?_
   rintro e W1 ⟨rfl, hb1⟩
   obtain ⟨j0, j1, j2, j3, j4, j5, j6⟩ := HJF.out W1 hb1
   go_wp2_with fail
   refine (HJC.out W1 hb1).mono ?_
   rintro e W2 ⟨rfl, hb2⟩
   rw [show errC false = 1 from rfl]
   go_wp2
   go_ret
   exact ⟨by rw [HV.out]; rfl, nxt (nxt HB.out hb1) hb2⟩
  | true =>
   have hm : (cfgB c && jobB j l) = true := by rw [hcb, hjb]; rfl
   have HM := hidM hm
   have hl6 := (jobB_of hjb).len.2
   have HRL := hidM (recsRes_ok hcb l)
   rw [hjb] at HJC
   clear hm hcb hjb
   go_enter Tryz.func21, Tryz.ntmps21
   go_wp2_with fail
   rw [HW.out]
   refine (HCC.out W0 HRF.out).mono ?_
   rintro e W1 ⟨rfl, hb1⟩
   obtain ⟨j0, j1, j2, j3, j4, j5, j6⟩ := HJF.out W1 hb1
   have HB1 := hidM hb1
   clear hb1
   go_wp2_with fail
   refine (HJC.out W1 HB1.out).mono ?_
   rintro e W2 ⟨rfl, hb2⟩
   have HB2 := hidM (nxt HB1.out hb2)
   rw [show errC true = 0 from rfl]
   obtain ⟨j0, j1, j2, j3, j4, j5, j6⟩ := HJF.out W2 HB2.out
   clear hb2
   go_wp2_with fail
   refine (HPA.out W2 HB2.out).mono ?_
   rintro e W3 ⟨r, hr, hb3, hres⟩
   have HB3 := hidM (nxt HB2.out hb3)
   have HR := hidM hr
   cases r with
   | err x =>
    obtain ⟨rfl, hx0⟩ := hres
    have hbe : (x != 0) = true := by simpa using hx0
    have hbe2 : (x == 0) = false := by simpa using hx0
    have HV := hidM (validRes_err HM.out HR.out)
    clear hx0 hr hb3
    go_wp2
    go_ret
    exact ⟨by rw [HV.out]; rfl, nxt HB.out HB3.out⟩
   | ok f ws m =>
    obtain ⟨v1, rfl, hown⟩ := hres
    obtain ⟨hMay, hWN, hln, hWB⟩ := prog_ok hr
    have hfs : FS QA W3 v1 f := hown.fs.arg
    obtain ⟨a1, c1, rfl⟩ := hfs.val
    have HCK := hidM (check_anyE f _ W3 hfs hln hWB)
    clear hr hb3 hfs hown hMay hWN hln hWB
    by_cases hce : cE f = 0
    ·have HV := hidM (validRes_recs HM.out HR.out hce)
     rw [hce] at HCK
     clear hce
     go_wp2_with fail
     refine HCK.out.mono ?_
     rintro e W4 ⟨rfl, hb4⟩
     have HB4 := hidM (nxt HB3.out hb4)
     obtain ⟨q0, q1, q2, q3⟩ := HCF.out W4 HB4.out
     obtain ⟨j0, j1, j2, j3, j4, j5, j6⟩ := HJF.out W4 HB4.out
     clear hb4
     go_wp2_with fail
     refine (HRE.out W4 HB4.out hl6).mono ?_
     rw [HRL.out]
     rintro e W5 ⟨⟨v5, rfl, -⟩, hb5⟩
     go_wp2
     go_ret
     exact ⟨by rw [HV.out]; rfl, nxt HB.out (nxt HB4.out hb5)⟩
    ·have HV := hidM (validRes_need HM.out HR.out hce)
     have hbe : (cE f != 0) = true := by simpa using hce
     have hbe2 : (cE f == 0) = false := by simpa using hce
     generalize cE f = x at HCK HV hbe hbe2
     clear hce
     go_wp2_with fail
     refine HCK.out.mono ?_
     rintro e W4 ⟨rfl, hb4⟩
     go_wp2
     go_ret
     exact ⟨by rw [HV.out]; rfl, nxt HB.out (nxt HB3.out hb4)⟩
set_option maxRecDepth 100000
theorem pl_err : ∀ (fu d : Nat) (ws : List (List UInt8)) (m : Nat) (c : Int), pl fu d ws m = some (.err c) → c ≠ 0 := by
 intro fu
 induction fu with
 | zero => intro d ws m c h; simp [pl] at h
 | succ fu ih =>
  intro d ws m c h
  cases ws with
  | nil =>
   rw [pl] at h
   split at h
   ·injection h with h; injection h with h; omega
   ·injection h with h; cases h
  | cons w ws =>
   rw [pl] at h
   by_cases h1 : w = shutW ∧ 0 < d
   ·rw [if_pos h1] at h; injection h with h; cases h
   rw [if_neg h1] at h
   cases ho : opW w with
   | none => rw [ho] at h; simp only at h; injection h with h; injection h with h; omega
   | some kn =>
    obtain ⟨k, n⟩ := kn
    rw [ho] at h
    simp only at h
    by_cases h2 : m = 128
    ·rw [if_pos h2] at h; injection h with h; injection h with h; omega
    rw [if_neg h2] at h
    cases hb : hasB k with
    | false =>
     rw [hb, if_neg (by simp)] at h
     cases hp : pl fu d ws (m + 1) with
     | none => rw [hp] at h; simp at h
     | some r' =>
      rw [hp] at h
      cases r' with
      | err e =>
       simp only [Option.map_some, Rs.pre] at h
       injection h with h
       injection h with h
       subst h
       exact ih _ _ _ _ hp
      | ok f w2 m2 => simp only [Option.map_some, Rs.pre] at h; injection h with h; cases h
    | true =>
     rw [hb, if_pos rfl] at h
     cases ws with
     | nil => simp only at h; injection h with h; injection h with h; omega
     | cons x ws =>
      simp only at h
      by_cases h3 : x ≠ openW
      ·rw [if_pos h3] at h; injection h with h; injection h with h; omega
      rw [if_neg h3] at h
      by_cases h4 : 6 < d + 1
      ·rw [if_pos h4] at h; injection h with h; injection h with h; omega
      rw [if_neg h4] at h
      cases hp : pl fu (d + 1) ws (m + 1) with
      | none => rw [hp] at h; simp at h
      | some r' =>
       rw [hp] at h
       cases r' with
       | err e =>
        simp only at h
        injection h with h
        injection h with h
        subst h
        exact ih _ _ _ _ hp
       | ok f w2 m2 =>
        simp only at h
        cases hq : pl fu d w2 m2 with
        | none => rw [hq] at h; simp at h
        | some r2 =>
         rw [hq] at h
         cases r2 with
         | err e =>
          simp only [Option.map_some, Rs.pre] at h
          injection h with h
          injection h with h
          subst h
          exact ih _ _ _ _ hq
         | ok f2 w3 m3 => simp only [Option.map_some, Rs.pre] at h; injection h with h; cases h
theorem progOf_err {s : ByteArray} {c : Int} (h : progOf s = .err c) : c ≠ 0 := by
 unfold progOf at h
 by_cases he : ∃ r, Prog s r
 ·rw [dif_pos he] at h
  have hp := Classical.choose_spec he
  rw [h] at hp
  unfold Prog at hp
  split at hp
  ·injection hp with hp; omega
  ·obtain ⟨fu, hp⟩ := hp
   exact pl_err _ _ _ _ _ hp
 ·rw [dif_neg he] at h
  injection h with h
  omega
theorem progOf_prog {s : ByteArray} {f : Fo} {ws : List (List UInt8)} {m : Nat} (h : progOf s = .ok f ws m) : Prog s (.ok f ws m) := by
 unfold progOf at h
 by_cases he : ∃ r, Prog s r
 ·rw [dif_pos he] at h
  have hp := Classical.choose_spec he
  rw [h] at hp
  exact hp
 ·rw [dif_neg he] at h
  cases h
theorem mapL_fine {f : Fo} {fu : Int} (hw : WfN f) : ∀ (l acc : List Rc), (∀ x ∈ l, Wr x ∧ x.1.2.size ≤ 64) → (∀ x ∈ acc, Wr x ∧ x.1.2.size ≤ 64) → ∀ x ∈ (mapL f fu l acc).1, Wr x ∧ x.1.2.size ≤ 64
 | [], acc, _, ha => ha
 | x :: l, acc, hl, ha => by
  rw [mapL]
  split
  ·simp
  ·split
   ·simp
   ·refine mapL_fine hw l _ (fun y hy => hl y (List.mem_cons_of_mem _ hy)) fun y hy => ?_
    rcases List.mem_append.1 hy with hy | hy
    ·exact ha y hy
    ·obtain ⟨h1, h2⟩ := runR_wf fu hw (hl x (List.mem_cons_self ..)).1 y hy
     exact ⟨h1, by rw [h2]; exact (hl x (List.mem_cons_self ..)).2⟩
structure MapOk (j : Jb) (l M : List Rc) : Prop where
 way : wayC j.agg j.bound = true
 wf : Wf M
 keys : keysOk M = true
 len : M.length ≤ 256
theorem mapRes_ok {j : Jb} {l : List Rc} (hl : Wf l) (h : (mapRes j l).2 = 0) : MapOk j l (mapRes j l).1 := by
 have hlen := mapP_len (progOf j.prog) j.agg j.bound j.fuel l
 unfold mapRes at h ⊢
 cases hp : progOf j.prog with
 | err c =>
  rw [hp] at h
  exact absurd h (progOf_err hp)
 | ok f ws m =>
  obtain ⟨hMay, hWN, -, -⟩ := prog_ok (progOf_prog hp)
  rw [hp] at h hlen
  unfold mapP at h hlen ⊢
  simp only at h hlen ⊢
  by_cases h1 : cE f ≠ 0
  ·rw [if_pos h1] at h; exact absurd h h1
  ·rw [if_neg h1] at h hlen ⊢
   by_cases h2 : mayM j.agg j.bound j.fuel l = true
   ·rw [if_pos h2] at h hlen ⊢
    unfold mayM at h2
    simp only [Bool.and_eq_true] at h2
    obtain ⟨g1, -, -, g4⟩ := h2
    have hf := mapL_fine (fu := j.fuel) hWN l [] (fun x hx => ⟨hl x hx, by
     unfold keysOk at g4
     rw [List.all_eq_true] at g4
     exact of_decide_eq_true (g4 x hx)⟩) (by simp)
    refine ⟨g1, fun x hx => (hf x hx).1, ?_, hlen⟩
    unfold keysOk
    rw [List.all_eq_true]
    exact fun x hx => decide_eq_true (hf x hx).2
   ·rw [if_neg h2] at h
    exact absurd h (by decide)
end Go.Proofs.YtclcgakfmcofaaaGreatDoor
