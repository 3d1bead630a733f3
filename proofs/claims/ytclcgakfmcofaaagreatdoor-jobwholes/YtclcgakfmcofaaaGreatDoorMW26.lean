import Derived.Test.YtclcgakfmcofaaaGreatDoorMW15
import Derived.Test.YtclcgakfmcofaaaGreatDoorMW20
import Derived.Test.YtclcgakfmcofaaaGreatDoorMW21
import Derived.Test.YtclcgakfmcofaaaGreatDoorMW22
import Derived.Test.YtclcgakfmcofaaaGreatDoorMW23
import Derived.Test.YtclcgakfmcofaaaGreatDoorMW24
import Derived.Test.YtclcgakfmcofaaaGreatDoorMW25
set_option linter.unusedVariables false
set_option maxRecDepth 100000
set_option maxHeartbeats 3200000
namespace Go.Proofs.YtclcgakfmcofaaaGreatDoor
open Go.RowKit
theorem mS (n m : Int) (w : World) : Calls Tryz.prog 38 #[.int .i64 n, .int .i64 m] w fun e w' => e = .returned (.bool (decide (0 ≤ n ∧ n ≤ m))) ∧ w' = w := by
 by_cases h1 : 0 ≤ n
 ·by_cases h2 : n ≤ m
  ·rw [decide_eq_true (show 0 ≤ n ∧ n ≤ m from ⟨h1, h2⟩)]
   go_enter Tryz.func38, Tryz.ntmps38
   go_wp2
   go_ret
   exact ⟨rfl, rfl⟩
  ·rw [decide_eq_false (show ¬ (0 ≤ n ∧ n ≤ m) from fun e => h2 e.2)]
   go_enter Tryz.func38, Tryz.ntmps38
   go_wp2
   go_ret
   exact ⟨rfl, rfl⟩
 ·rw [decide_eq_false (show ¬ (0 ≤ n ∧ n ≤ m) from fun e => h1 e.1)]
  go_enter Tryz.func38, Tryz.ntmps38
  go_wp2
  go_ret
  exact ⟨rfl, rfl⟩
def fp (W : World) (b : Nat) (j : Jb) (v : Value) : Prop := W.heap[b]? = some (.cells #[.int .i64 j.id, .string j.prog, .int .i64 j.agg, .int .i64 j.bound, .int .i64 j.fuel, v, .int .i64 j.parts] 37 (0, 0))
theorem fp.new (W : World) (j : Jb) (v : Value) : fp (W.alloc (.cells #[.int .i64 j.id, .string j.prog, .int .i64 j.agg, .int .i64 j.bound, .int .i64 j.fuel, v, .int .i64 j.parts] 37)) W.heap.size j v := heap_alloc_new W _
theorem fp.lt {W : World} {b : Nat} {j : Jb} {v : Value} (h : fp W b j v) : b < W.heap.size := (Array.getElem?_eq_some_iff.1 h).1
theorem fp.below {W W' : World} {b : Nat} {j : Jb} {v : Value} (h : fp W b j v) (hb : Below W.heap.size W W') : fp W' b j v := by unfold fp; rw [hb.block b h.lt]; exact h
theorem fp.cells {W : World} {b : Nat} {j : Jb} {v : Value} (h : fp W b j v) : W.cell? ⟨b, 0, none⟩ = some (.int .i64 j.id) ∧ W.cell? ⟨b, 1, none⟩ = some (.string j.prog) ∧ W.cell? ⟨b, 2, none⟩ = some (.int .i64 j.agg) ∧ W.cell? ⟨b, 3, none⟩ = some (.int .i64 j.bound) ∧ W.cell? ⟨b, 4, none⟩ = some (.int .i64 j.fuel) ∧ W.cell? ⟨b, 5, none⟩ = some v ∧ W.cell? ⟨b, 6, none⟩ = some (.int .i64 j.parts) := by
 unfold fp at h
 refine ⟨?_, ?_, ?_, ?_, ?_, ?_, ?_⟩ <;> simp [World.cell?, h]
theorem bq.down3 {w : World} {base base' : Nat} {v : Value} {l : List Rc} (h : bq w base v l) (hb : base' ≤ base) : bq w base' v l := by
 refine ⟨h.1, ?_⟩
 rcases h.2 with ⟨h1, h2⟩ | ⟨g, cap, cur, h1, h2, h3, h4⟩
 ·exact .inl ⟨h1, h2⟩
 ·exact .inr ⟨g, cap, cur, h1, by omega, h3, h4⟩
theorem mapP_err (c agg bound fu : Int) (l : List Rc) : jT (.err c) agg bound fu l = ([], c) := rfl
theorem oV {f : Fo} {ws : List (List UInt8)} {m : Nat} {agg bound fu : Int} {l : List Rc} (h : cE f ≠ 0) : jT (.ok f ws m) agg bound fu l = ([], cE f) := by unfold jT; simp only; rw [if_pos h]
theorem oW {f : Fo} {ws : List (List UInt8)} {m : Nat} {agg bound fu : Int} {l : List Rc} (h : cE f = 0) (hm : gd agg bound fu l = false) : jT (.ok f ws m) agg bound fu l = ([], 1) := by unfold jT; simp only; rw [if_neg (by simpa using h), if_neg (by rw [hm]; decide)]
theorem mapP_run {f : Fo} {ws : List (List UInt8)} {m : Nat} {agg bound fu : Int} {l : List Rc} (h : cE f = 0) (hm : gd agg bound fu l = true) : jT (.ok f ws m) agg bound fu l = iB f fu l [] := by unfold jT; simp only; rw [if_neg (by simpa using h), if_pos hm]
theorem oX {j : Jb} {r : Rs} (h : cG j.prog r) (l : List Rc) : ap j l = jT r j.agg j.bound j.fuel l := by unfold ap; rw [eD h]
theorem keysOk_at {l : List Rc} (h : aU l = true) {x : Rc} (hx : x ∈ l) : x.1.2.size ≤ 64 := by
 unfold aU at h
 rw [List.all_eq_true] at h
 exact of_decide_eq_true (h x hx)
theorem oY (f : Fo) (fu : Int) (x : Rc) (l acc : List Rc) : iB f fu (x :: l) acc = if (df f x fu).1 ≠ 0 then ([], (df f x fu).1) else if 256 < (acc ++ (df f x fu).2.2).length then ([], 2) else iB f fu l (acc ++ (df f x fu).2.2) := rfl
theorem lA (f : Fo) (x : Rc) (fu : Int) : (df f x fu).2.2.length ≤ 256 := by
 unfold df
 split
 ·simp
 ·next h1 =>
  split
  ·simp
  ·next h2 =>
   cases he : ev x f ⟨fu.toNat, [], []⟩ with
   | err c => simp
   | ok s =>
    obtain ⟨hm, p, hn⟩ := cE_zero (by simpa using h1)
    exact (fI x f 0 0 0 0 0 p ⟨fu.toNat, [], []⟩ s hm.1 hn (by omega) ⟨rfl, by simp⟩ he).1.out
theorem rmap_any (j : Jb) (a5 : Option Addr) (n5 c5 : Nat) (u : Value) (l : List Rc) (w : World) (h : RS w u l) (hl : l.length ≤ 100000) (hp : j.prog.size ≤ 140737488351232) (hpos : 0 < w.heap.size) :
  Calls Tryz.prog 55 #[cJ j (.slice a5 n5 c5), u] w fun e w' => (∃ v', e = .returned (.tuple #[v', .int .i64 (ap j l).2]) ∧ bq w' w.heap.size v' (ap j l).1) ∧ Below w.heap.size w w' := by
 have hst : ∀ (W : World) (o : Obj), Below W.heap.size W (W.alloc o) := fun W o => (Below.refl _ _).alloc (Nat.le_refl _) _
 obtain ⟨W0, hW0⟩ : ∃ W0 : World, W0 = w.alloc (.cells #[.int .i64 j.id, .string j.prog, .int .i64 j.agg, .int .i64 j.bound, .int .i64 j.fuel, .slice a5 n5 c5, .int .i64 j.parts] 37) := ⟨_, rfl⟩
 have hb0 : Below w.heap.size w W0 := by rw [hW0]; exact hst _ _
 have B0 : fp W0 w.heap.size j (.slice a5 n5 c5) := by rw [hW0]; exact fp.new w _ _
 have h0 := h.below hb0
 obtain ⟨⟨M1, M2⟩, hM⟩ : ∃ M, M = ap j l := ⟨_, rfl⟩
 rw [← hM]
 have HM := ae hM
 have HP := ae (fun r (hr : cG j.prog r) => hM.trans (oX hr l))
 have HPA := ae (mQ j.prog W0 hp (by have := hb0.size; omega))
 have HB0 := ae hb0
 have HF0 := ae B0
 have HW := ae hW0.symm
 have HS := ae h0
 have HST := ae hst
 obtain ⟨r0, r1, r2, r3, r4, -, -⟩ := B0.cells
 obtain ⟨ju, cu, rfl, hsh⟩ := h0
 clear hM hW0 B0 h hst hb0
 go_enter Tryz.func55, Tryz.ntmps55
 go_wp2_with fail
 rw [HW.out]
 refine HPA.out.mono ?_
 rintro e W1 ⟨r, hr, hb1, hres⟩
 have HR := ae (HP.out r hr)
 have HB1 := ae hb1
 cases r with
 | err c =>
  obtain ⟨rfl, hc0⟩ := hres
  have hbe : (c != 0) = true := by simpa using hc0
  rw [mapP_err] at HR
  clear hr hb1 HPA HP
  go_wp2
  go_ret2
  exact ⟨⟨_, by rw [(Prod.mk.inj HR.out).2]; rfl, by rw [(Prod.mk.inj HR.out).1]; exact World.ownsRow_nil _ _ _ _⟩, ag HB0.out HB1.out⟩
 | ok f ws m =>
  obtain ⟨v1, rfl, hown⟩ := hres
  obtain ⟨hMay, hWN, hln, hWB⟩ := ir hr
  have hfs : FS QA W1 v1 f := hown.fs.arg
  obtain ⟨a1, c1, rfl⟩ := hfs.val
  have HFS := ae hfs
  have HC := ae (ly f _ W1 hfs hln hWB)
  by_cases hcE : cE f = 0
  ·rw [hcE] at HC
   have HCE := ae hcE
   have HFA := ae (show ∀ W, Below W1.heap.size W1 W → W.cell? ⟨w.heap.size, 2, none⟩ = some (.int .i64 j.agg) ∧ W.cell? ⟨w.heap.size, 3, none⟩ = some (.int .i64 j.bound) ∧ W.cell? ⟨w.heap.size, 4, none⟩ = some (.int .i64 j.fuel) ∧ Below W0.heap.size W0 W from fun W hW => by
    obtain ⟨-, -, z2, z3, z4, -, -⟩ := ((HF0.out.below hb1).below hW).cells
    exact ⟨z2, z3, z4, ag hb1 hW⟩)
   have HWAY := ae (fun W => way_any j.agg j.bound W)
   have HNUM := ae (fun W => mS j.fuel 2000 W)
   have HREC := ae (fun (W : World) (hW : Below W0.heap.size W0 W) => rrecs_any _ l W (HS.out.below hW) hl)
   have HNO := ae (fun (hm : gd j.agg j.bound j.fuel l = false) => Prod.mk.inj (HR.out.trans (oW hcE hm)))
   have HYES := ae (fun (hm : gd j.agg j.bound j.fuel l = true) => HR.out.trans (mapP_run hcE hm))
   clear hr hb1 HPA HP hfs hown r0 r1 r2 r3 r4 hcE
   by_cases g1 : aJ j.agg j.bound = true
   ·by_cases g2 : 0 ≤ j.fuel ∧ j.fuel ≤ 2000
    ·by_cases g3 : l.length ≤ 64
     ·cases g4 : aU l with
      | true =>
       have HY := ae (HYES.out (by unfold gd; rw [g1, decide_eq_true g2, decide_eq_true g3, g4]; rfl))
       have HKO := ae g4
       have HG2 := ae g2
       have HG3 := ae g3
       rw [g1] at HWAY
       rw [decide_eq_true g2] at HNUM
       rw [g4] at HREC
       have g3i : ¬ (64 : Int) < (l.length : Int) := by omega
       have g3d : decide ((64 : Int) < (l.length : Int)) = false := decide_eq_false g3i
       clear g1 g2 g4 HNO HYES
       go_wp2_with (first
        | (go_at_call 64; refine HC.out.mono ?_; rintro e W2 ⟨rfl, hb2⟩; obtain ⟨z2, z3, z4, hbW⟩ := HFA.out W2 hb2)
        | (go_at_call 37; refine (HWAY.out _).mono ?_; rintro e W3 ⟨rfl, hw3⟩; subst W3)
        | (go_at_call 38; refine (HNUM.out _).mono ?_; rintro e W3 ⟨rfl, hw3⟩; subst W3)
        | (go_at_call 93; refine (HREC.out _ hbW).mono ?_; rintro e W3 ⟨rfl, hb3⟩))
       have HB3 := ae (ag hbW hb3)
       have HFW := ae (show ∀ W, Below W3.heap.size W3 W → W.cell? ⟨w.heap.size, 4, none⟩ = some (.int .i64 j.fuel) ∧ FS QA W (.slice a1 f.len c1) f ∧ Below W3.heap.size W3 W from fun W hW => by
        obtain ⟨-, -, -, -, y4, -, -⟩ := (HF0.out.below (ag HB3.out hW)).cells
        exact ⟨y4, HFS.out.below (ag hb2 (ag hb3 hW)), hW⟩)
       obtain ⟨fu, hfu⟩ : ∃ fu : Nat, j.fuel = (fu : Int) := ⟨j.fuel.toNat, by have := HG2.out; omega⟩
       rw [hfu] at HFW HY
       have HFQ := ae (show fu ≤ 2000 by have := HG2.out; omega)
       clear hfu hb2 hb3 hbW z2 z3 z4
       go_loopw [8, 9] (fun vo i wr => ∃ (k : Nat) (acc : List Rc), k ≤ l.length ∧ i = .int .i64 k ∧ Hid (iB f (fu : Int) (l.drop k) acc = (M1, M2)) ∧ acc.length ≤ 256 ∧ bq wr W3.heap.size vo acc ∧ Below W3.heap.size W3 wr) (fun _ i _ => l.length - (intOf i).toNat)
       case atStart => exact ⟨0, [], by omega, rfl, HY.out.symm, by simp, World.ownsRow_nil _ _ _ _, Below.refl _ _⟩
       case round =>
        rename World => w0
        obtain ⟨k, acc, hk, rfl, HO, hacc, ho, hbel⟩ := hrel
        obtain ⟨ao, co, rfl⟩ : ∃ a c, u8 = .slice a acc.length c := by
         obtain ⟨a, c, e, -⟩ := RS.own ho
         exact ⟨a, c, e⟩
        have HBEL := ae hbel
        by_cases hlt : k < l.length
        ·obtain ⟨⟨⟨xa, xb⟩, xv⟩, hx⟩ := ak hlt
         rcases hsh with hnil | ⟨b, off, rfl, hb, hat⟩
         ·rw [hnil] at hlt; simp at hlt
         have hki0 : (0 : Int) ≤ (k : Int) := by omega
         have hki : (k : Int) < (l.length : Int) := by omega
         have hcell := ae (show ∀ W, Below w0.heap.size w0 W → (W.cell? ⟨b, off + k * 3, none⟩ = some (.int .i64 xa) ∧ W.cell? ⟨b, off + k * 3 + 1, none⟩ = some (.string xb) ∧ W.cell? ⟨b, off + k * 3 + 2, none⟩ = some (.int .i64 xv) ∧ W.cell? ⟨w.heap.size, 4, none⟩ = some (.int .i64 (fu : Int))) ∧ FS QA W (.slice a1 f.len c1) f ∧ Below w0.heap.size w0 W from fun W hW => by
          have hbb : b < w0.heap.size := Nat.lt_of_lt_of_le hb (ag HB3.out hbel).size
          obtain ⟨c0, c1', c2⟩ := (hat.below (ag HB3.out hbel) hb) k _ hx
          obtain ⟨y4, yf, -⟩ := HFW.out W (ag hbel hW)
          exact ⟨⟨(hW.cell (p := ⟨b, _, none⟩) hbb).trans c0, (hW.cell (p := ⟨b, _, none⟩) hbb).trans c1', (hW.cell (p := ⟨b, _, none⟩) hbb).trans c2, y4⟩, yf, hW⟩)
         have HRUN := ae (fun (W : World) (hf : FS QA W (.slice a1 f.len c1) f) => rRun_any f _ W ((xa, xb), xv) fu hf hln hWB HCE.out (keysOk_at HKO.out (List.mem_of_getElem? hx)) HFQ.out)
         have h256 := lA f ((xa, xb), xv) (fu : Int)
         have hstep := HO.out
         rw [show l.drop k = ((xa, xb), xv) :: l.drop (k + 1) from by
          obtain ⟨q1, q2⟩ := List.getElem?_eq_some_iff.1 hx
          rw [List.drop_eq_getElem_cons q1, q2], oY] at hstep
         unfold kJ at HRUN
         obtain ⟨RR, hRR⟩ : ∃ RR, RR = df f ((xa, xb), xv) (fu : Int) := ⟨_, rfl⟩
         rw [← hRR] at HRUN hstep h256
         obtain ⟨er, lf, out⟩ := RR
         simp only at HRUN hstep h256
         have HKEEP := ae (fun (W W' : World) (hn : (W.cell? ⟨b, off + k * 3, none⟩ = some (.int .i64 xa) ∧ W.cell? ⟨b, off + k * 3 + 1, none⟩ = some (.string xb) ∧ W.cell? ⟨b, off + k * 3 + 2, none⟩ = some (.int .i64 xv) ∧ W.cell? ⟨w.heap.size, 4, none⟩ = some (.int .i64 (fu : Int))) ∧ FS QA W (.slice a1 f.len c1) f ∧ Below w0.heap.size w0 W) (hb : Below W.heap.size W W') => hcell.out W' (ag hn.2.2 hb))
         have HOW := ae ho
         have HSTEP := ae hstep
         clear hx hat ho hbel HO hstep hRR
         go_wp2
         go_region_held3 (fun W => (W.cell? ⟨b, off + k * 3, none⟩ = some (.int .i64 xa) ∧ W.cell? ⟨b, off + k * 3 + 1, none⟩ = some (.string xb) ∧ W.cell? ⟨b, off + k * 3 + 2, none⟩ = some (.int .i64 xv) ∧ W.cell? ⟨w.heap.size, 4, none⟩ = some (.int .i64 (fu : Int))) ∧ FS QA W (.slice a1 f.len c1) f ∧ Below w0.heap.size w0 W)
          (first | exact HKEEP.out _ _ (by assumption) (by assumption) | exact hcell.out _ (Below.refl _ _).drew)
          (first | (go_at_call 94; refine (HRUN.out _ (by first | exact (hcell.out _ (Below.refl w0.heap.size w0).drew).2.1 | exact (‹(_ ∧ _ ∧ _ ∧ _) ∧ FS QA _ (.slice a1 f.len c1) f ∧ Below w0.heap.size w0 _›).2.1)).mono ?_; rintro e W5 ⟨v5, rfl, ho5, hb5⟩))
         obtain ⟨-, -, hbV⟩ := ‹(_ ∧ _ ∧ _ ∧ _) ∧ FS QA _ (.slice a1 f.len c1) f ∧ Below w0.heap.size w0 _›
         obtain ⟨a6, c6, rfl⟩ : ∃ a c, v5 = .slice a out.length c := by
          obtain ⟨a, c, e, -⟩ := RS.own ho5
          exact ⟨a, c, e⟩
         have hbX := ag HBEL.out hbV
         by_cases he : er = 0
         ·have hbe : (er != 0) = false := by rw [he]; rfl
          have hS := HSTEP.out
          rw [if_neg (by rw [he]; simp)] at hS
          obtain ⟨v8, W8, q1, q2, q3⟩ := iq 97 (HOW.out.below hbV) (RS.own ho5) (by omega) hbX.size
          have hb8 := ae (hbX.grown q3 hbX.size (aW (HOW.out.below hbV)))
          obtain ⟨a8, c8, rfl⟩ : ∃ a c, v8 = .slice a (acc ++ out).length c := by
           obtain ⟨a, c, e, -⟩ := RS.own q2
           exact ⟨a, c, e⟩
          have U1 := ae q1
          have Q2 := ae q2
          by_cases hbig : 256 < (acc ++ out).length
          ·rw [if_pos hbig] at hS
           have HN := ae (Prod.mk.inj hS)
           have hd : decide ((256 : Int) < ((acc ++ out).length : Int)) = true := decide_eq_true (by omega)
           clear q1 q2 q3 hS ho5 hb5 hbig
           generalize (acc ++ out).length = n8 at *
           go_wp2_with (first
            | (at_builtin; refine wpList_append_run _ rfl _ _ _ rfl _ _ _ W8 rfl rfl U1.out ?_))
           go_ret2
           exact ⟨⟨_, by rw [← HN.out.2]; rfl, by rw [← HN.out.1]; exact World.ownsRow_nil _ _ _ _⟩, ag HB0.out (ag HB3.out hb8.out)⟩
          ·rw [if_neg hbig] at hS
           have HN := ae hS
           have hd : decide ((256 : Int) < ((acc ++ out).length : Int)) = false := decide_eq_false (by omega)
           have hle : (acc ++ out).length ≤ 256 := by omega
           have hd2 : decide ((256 : Int) < (acc.length : Int) + (out.length : Int)) = false := decide_eq_false (by rw [List.length_append] at hle; omega)
           have hd3 : ¬ (256 : Int) < (acc.length : Int) + (out.length : Int) := by rw [List.length_append] at hle; omega
           clear q1 q2 q3 hS ho5 hb5 hbig
           go_wp2_with (first
            | (at_builtin; refine wpList_append_run _ rfl _ _ _ rfl _ _ _ W8 rfl rfl U1.out ?_))
           refine ⟨⟨k + 1, acc ++ out, by omega, by go_num, HN.out, hle, by rw [← List.length_append]; exact Q2.out, hb8.out⟩, ?_⟩
           simp only [intOf]
           omega
         ·have hbe : (er != 0) = true := by simpa using he
          have hS := HSTEP.out
          rw [if_pos he] at hS
          have HN := ae (Prod.mk.inj hS)
          clear hS he ho5 hb5
          go_wp2
          go_ret2
          exact ⟨⟨_, by rw [← HN.out.2]; rfl, by rw [← HN.out.1]; exact World.ownsRow_nil _ _ _ _⟩, ag HB0.out (ag HB3.out hbX)⟩
        ·have hlt' : l.length ≤ k := by omega
         have hO := HO.out
         rw [mapL_end hlt'] at hO
         have HN := ae (Prod.mk.inj hO)
         have hlti : ¬ (k : Int) < (l.length : Int) := by omega
         clear hO HO
         go_wp2
         go_ret2
         exact ⟨⟨_, by rw [← HN.out.2]; rfl, by rw [← HN.out.1]; exact ho.down3 (ag HB0.out HB3.out).size⟩, ag HB0.out (ag HB3.out hbel)⟩
      | false =>
       have HN := ae (HNO.out (by unfold gd; rw [g4, Bool.and_false, Bool.and_false, Bool.and_false]))
       rw [g1] at HWAY
       rw [decide_eq_true g2] at HNUM
       rw [g4] at HREC
       have g3i : ¬ (64 : Int) < (l.length : Int) := by omega
       have g3d : decide ((64 : Int) < (l.length : Int)) = false := decide_eq_false g3i
       clear g1 g2 g3 g4 HNO HYES
       go_wp2_with (first
        | (go_at_call 64; refine HC.out.mono ?_; rintro e W2 ⟨rfl, hb2⟩; obtain ⟨z2, z3, z4, hbW⟩ := HFA.out W2 hb2)
        | (go_at_call 37; refine (HWAY.out _).mono ?_; rintro e W3 ⟨rfl, hw3⟩; subst W3)
        | (go_at_call 38; refine (HNUM.out _).mono ?_; rintro e W3 ⟨rfl, hw3⟩; subst W3)
        | (go_at_call 93; refine (HREC.out _ hbW).mono ?_; rintro e W3 ⟨rfl, hb3⟩))
       go_ret2
       exact ⟨⟨_, by rw [HN.out.2]; rfl, by rw [HN.out.1]; exact World.ownsRow_nil _ _ _ _⟩, ag HB0.out (ag hbW hb3)⟩
     ·have HN := ae (HNO.out (by unfold gd; rw [decide_eq_false g3, Bool.false_and, Bool.and_false, Bool.and_false]))
      rw [g1] at HWAY
      rw [decide_eq_true g2] at HNUM
      have g3i : (64 : Int) < (l.length : Int) := by omega
      have g3d : decide ((64 : Int) < (l.length : Int)) = true := decide_eq_true g3i
      clear g1 g2 g3 HNO HYES
      go_wp2_with (first
        | (go_at_call 64; refine HC.out.mono ?_; rintro e W2 ⟨rfl, hb2⟩; obtain ⟨z2, z3, z4, hbW⟩ := HFA.out W2 hb2)
        | (go_at_call 37; refine (HWAY.out _).mono ?_; rintro e W3 ⟨rfl, hw3⟩; subst W3)
        | (go_at_call 38; refine (HNUM.out _).mono ?_; rintro e W3 ⟨rfl, hw3⟩; subst W3)
        | (go_at_call 93; refine (HREC.out _ hbW).mono ?_; rintro e W3 ⟨rfl, hb3⟩))
      go_ret2
      exact ⟨⟨_, by rw [HN.out.2]; rfl, by rw [HN.out.1]; exact World.ownsRow_nil _ _ _ _⟩, ag HB0.out hbW⟩
    ·have HN := ae (HNO.out (by unfold gd; rw [decide_eq_false g2, Bool.false_and, Bool.and_false]))
     rw [g1] at HWAY
     rw [decide_eq_false g2] at HNUM
     clear g1 g2 HNO HYES
     go_wp2_with (first
        | (go_at_call 64; refine HC.out.mono ?_; rintro e W2 ⟨rfl, hb2⟩; obtain ⟨z2, z3, z4, hbW⟩ := HFA.out W2 hb2)
        | (go_at_call 37; refine (HWAY.out _).mono ?_; rintro e W3 ⟨rfl, hw3⟩; subst W3)
        | (go_at_call 38; refine (HNUM.out _).mono ?_; rintro e W3 ⟨rfl, hw3⟩; subst W3)
        | (go_at_call 93; refine (HREC.out _ hbW).mono ?_; rintro e W3 ⟨rfl, hb3⟩))
     go_ret2
     exact ⟨⟨_, by rw [HN.out.2]; rfl, by rw [HN.out.1]; exact World.ownsRow_nil _ _ _ _⟩, ag HB0.out hbW⟩
   ·have g1 : aJ j.agg j.bound = false := by simpa using g1
    have HN := ae (HNO.out (by unfold gd; rw [g1, Bool.false_and]))
    rw [g1] at HWAY
    clear g1 HNO HYES
    go_wp2_with (first
        | (go_at_call 64; refine HC.out.mono ?_; rintro e W2 ⟨rfl, hb2⟩; obtain ⟨z2, z3, z4, hbW⟩ := HFA.out W2 hb2)
        | (go_at_call 37; refine (HWAY.out _).mono ?_; rintro e W3 ⟨rfl, hw3⟩; subst W3)
        | (go_at_call 38; refine (HNUM.out _).mono ?_; rintro e W3 ⟨rfl, hw3⟩; subst W3)
        | (go_at_call 93; refine (HREC.out _ hbW).mono ?_; rintro e W3 ⟨rfl, hb3⟩))
    go_ret2
    exact ⟨⟨_, by rw [HN.out.2]; rfl, by rw [HN.out.1]; exact World.ownsRow_nil _ _ _ _⟩, ag HB0.out hbW⟩
  ·have HN := ae (Prod.mk.inj (HR.out.trans (oV hcE)))
   have hbe : (cE f != 0) = true := by simpa using hcE
   obtain ⟨c, hc⟩ : ∃ c, c = cE f := ⟨_, rfl⟩
   rw [← hc] at HC HN hbe
   clear hr hb1 HPA HP hcE hc hfs hown HR
   go_wp2_with fail
   refine HC.out.mono ?_
   rintro e W2 ⟨rfl, hb2⟩
   go_wp2
   go_ret2
   exact ⟨⟨_, by rw [HN.out.2]; rfl, by rw [HN.out.1]; exact World.ownsRow_nil _ _ _ _⟩, ag HB0.out (ag HB1.out hb2)⟩
end Go.Proofs.YtclcgakfmcofaaaGreatDoor
