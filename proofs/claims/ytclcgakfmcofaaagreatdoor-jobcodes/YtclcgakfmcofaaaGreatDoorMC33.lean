/- Texts laid together: WLaw, JWf, NPro, NMap. -/
import Derived.Test.YtclcgakfmcofaaaGreatDoorMC32
import Derived.Test.YtclcgakfmcofaaaGreatDoorMC9
import Derived.Test.YtclcgakfmcofaaaGreatDoorMC24
import Derived.Test.YtclcgakfmcofaaaGreatDoorMC28
import Derived.Test.YtclcgakfmcofaaaGreatDoorMC31
import Derived.Test.YtclcgakfmcofaaaGreatDoorMC15
import Derived.Test.YtclcgakfmcofaaaGreatDoorMC30
import Derived.Test.YtclcgakfmcofaaaGreatDoorMC23
import Derived.Test.YtclcgakfmcofaaaGreatDoorMC26
namespace Go.Proofs.YtclcgakfmcofaaaGreatDoor
open Go.RowKit
set_option linter.unusedVariables false
set_option maxRecDepth 100000
theorem keysOk_mem {l : List Rc} : keysOk l = true ↔ ∀ x ∈ l, x.1.2.size ≤ 64 := by
 unfold keysOk
 rw [List.all_eq_true]
 constructor
 ·intro h x hx; have := h x hx; simpa using this
 ·intro h x hx; simpa using h x hx
theorem fine_fold {agg bound : Int} {l : List Rc} (hw : wayC agg bound = true) (hk : keysOk l = true) (hwf : Wf l) (hl : l.length ≤ 1536) : FineR agg bound (foldR agg bound.toNat l).1 := by
 have hr := fold_rise agg bound.toNat l
 have hc : ∀ r ∈ (foldR agg bound.toNat l).1, OkC agg bound r.2 := fun r hr' => okC_fold l hw hwf _ _ (mem_look hr hr')
 refine ⟨?_, hc, good_fold agg bound.toNat hwf⟩
 unfold okRows
 rw [hw, Bool.true_and, Bool.and_eq_true, Bool.and_eq_true, decide_eq_true_eq, decide_eq_true_eq, List.all_eq_true]
 refine ⟨⟨by have := len_fold agg bound.toNat l; omega, fun r hr' => ?_⟩, hr⟩
 rw [Bool.and_eq_true, decide_eq_true_eq]
 refine ⟨?_, (hc r hr').1⟩
 have h1 := mem_look hr hr'
 obtain ⟨y, hy, e⟩ := (keys_gat (joinC agg bound.toNat) (ones agg l) r.1).1 (by unfold foldR at h1; rw [h1]; rfl)
 unfold ones at hy
 obtain ⟨z, hz, rfl⟩ := List.mem_map.1 hy
 rw [← e]
 exact keysOk_mem.1 hk z hz
set_option maxRecDepth 100000
theorem fineJ_wf {agg bound : Int} {r : List Rw} (h : FineR agg bound r) : WfRs r := fun x hx => by
 obtain ⟨h1, h2, h3⟩ := h.each hx
 exact ⟨⟨h3.1, by omega⟩, h2.2.1, by have := h2.2.2; omega⟩
theorem keysJ_app {a b : List Rc} (ha : keysOk a = true) (hb : keysOk b = true) : keysOk (a ++ b) = true := by
 unfold keysOk at *
 rw [List.all_append, ha, hb]
 rfl
theorem rTake_wr {s : ByteArray} (h : (rTake s).2.2 = 0) : Wr (rTake s).1 := by
 unfold rTake at h ⊢
 split at h
 ·next h0 => exact absurd h h0
 ·next h0 =>
  rw [if_neg h0]
  split at h
  ·next h1 => exact absurd h h1
  ·next h1 =>
   rw [if_neg h1]
   obtain ⟨q, e1, q1, q2, q3, q4⟩ := kgood (s := s) (by simpa using h0)
   obtain ⟨p, e2, p1, p2, p3⟩ := take_pos (s := from' s (kTake s).2.1) (by simpa using h1)
   exact ⟨q4.1, q4.2, by simp only; omega, p3.1, p3.2⟩
theorem allG_wf : ∀ (n : Nat) (acc : List Rc) (s : ByteArray), Wf acc → Wf (allG n acc s).1
 | 0, acc, s, h => by unfold allG; split; exact h; intro x hx; simp at hx
 | n + 1, acc, s, h => by
  unfold allG
  split
  ·exact h
  ·simp only
   split
   ·intro x hx; simp at hx
   ·next h1 =>
    refine allG_wf n _ _ fun x hx => ?_
    rcases List.mem_append.1 hx with hx | hx
    ·exact h x hx
    ·simp at hx
     subst hx
     exact rTake_wr (by simpa using h1)
theorem allOf_wf (s : ByteArray) : Wf (allOf s).1 := by
 unfold allOf
 split
 ·intro x hx; simp at hx
 ·exact allG_wf 64 [] s (fun x hx => by simp at hx)
theorem rcO_some {c : Cfg} {i : Int} {k : Nat} (h : cfgB c = true) (hk : findC c.splits i = some k) : recsRes c [i] = (recsS (c.splits.getD k s0), 0) := by
 unfold recsRes
 rw [if_pos h]
 unfold recsL
 rw [hk]
 simp [recsL]
theorem rcO_wf (c : Cfg) (i : Int) : Wf (rcO c i) ∧ (rcO c i).length ≤ 64 := by
 have no : Wf ([] : List Rc) ∧ ([] : List Rc).length ≤ 64 := ⟨fun x hx => by simp at hx, by simp⟩
 unfold rcO
 cases hc : cfgB c with
 | false => unfold recsRes; rw [hc]; exact no
 | true =>
  cases hk : findC c.splits i with
  | none => unfold recsRes recsL; rw [hc, hk]; exact no
  | some k => rw [rcO_some hc hk]; exact ⟨allOf_wf _, allOf_len _⟩
set_option maxRecDepth 100000
theorem foldRes_err (agg bound : Int) (l : List Rc) : (mayFo agg bound l = true → (foldRes agg bound l).2 ≠ 1) ∧ (mayFo agg bound l = false → (foldRes agg bound l).2 = 1) := by
 unfold foldRes mayFo
 cases h : (wayC agg bound && decide (l.length ≤ 1536) && keysOk l)
 ·exact ⟨fun h => (by cases h), fun _ => (by simp)⟩
 ·refine ⟨fun _ => ?_, fun h => (by cases h)⟩
  rw [if_pos rfl]
  rcases gat_err agg bound.toNat (ones agg l) with h0 | h0
  ·have : (foldR agg bound.toNat l).2 = 0 := h0
   rw [fin_ok this, this]; decide
  ·have : (foldR agg bound.toNat l).2 = 11 := h0
   rw [fin_bad (by rw [this]; decide), this]; decide
set_option maxHeartbeats 1000000 in
theorem lmayFold_any (agg bound : Int) (v : Value) (l : List Rc) (w : World) (h : RS w v l) (hwf : Wf l) (hl : l.length ≤ 100000) :
  Calls Tryz.prog 128 #[.int .i64 agg, .int .i64 bound, v] w (BoolR w (mayFo agg bound l)) := by
 have HF := hidM (fold_any agg bound v l w h hwf hl)
 obtain ⟨h1, h2⟩ := foldRes_err agg bound l
 obtain ⟨⟨F1, F2⟩, hF⟩ : ∃ F, foldRes agg bound l = F := ⟨_, rfl⟩
 rw [hF] at HF h1 h2
 simp only at h1 h2
 obtain ⟨a, c, rfl, -⟩ := h
 cases hm : mayFo agg bound l with
 | true =>
  have hne : (F2 != 1) = true := by simpa using h1 hm
  clear h1 h2 hm hF
  go_enter Tryz.func128, Tryz.ntmps128
  go_wp2_with (go_at_call 87; refine HF.out.mono ?_; rintro e W1 ⟨⟨v1, rfl, ho1⟩, hb1⟩)
  go_ret
  exact ⟨rfl, hb1⟩
 | false =>
  have he := h2 hm
  subst he
  clear h1 h2 hm hF
  go_enter Tryz.func128, Tryz.ntmps128
  go_wp2_with (go_at_call 87; refine HF.out.mono ?_; rintro e W1 ⟨⟨v1, rfl, ho1⟩, hb1⟩)
  go_ret
  exact ⟨rfl, hb1⟩
theorem run_zero (f : Fo) : (cE f = 0 → (runR f ((0, ⟨#[]⟩), 0) 0).1 = 0 ∨ (runR f ((0, ⟨#[]⟩), 0) 0).1 = 10) ∧ (cE f ≠ 0 → (runR f ((0, ⟨#[]⟩), 0) 0).1 = cE f) := by
 refine ⟨fun h => ?_, fun h => by rw [runR_1 h]⟩
 cases f with
 | nil => exact .inl (by rw [show (0 : Int) = ((0 : Nat) : Int) from rfl, runR_4 (q := 0) h (by decide) (by omega) rfl]; rfl)
 | cons k n b r => exact .inr (by rw [show (0 : Int) = ((0 : Nat) : Int) from rfl, runR_3 (q := 0) h (by decide) (by omega) (ev_no rfl)])
def ProR (w : World) (s : ByteArray) (e : Ending) (w' : World) : Prop := ∃ r, Prog s r ∧ Below w.heap.size w w' ∧ match r with
 | .err c => e = .returned (.tuple #[.slice none 0 0, .int .i64 c]) ∧ c ≠ 0
 | .ok f _ _ => (cE f ≠ 0 → e = .returned (.tuple #[.slice none 0 0, .int .i64 (cE f)])) ∧ (cE f = 0 → ∃ v, e = .returned (.tuple #[v, .int .i64 0]) ∧ FS QA w' v f)
set_option maxHeartbeats 2000000 in
theorem program_any (s : ByteArray) (w : World) (hs : s.size ≤ 140737488351232) (hE : Env w) : Calls Tryz.prog 127 #[.string s] w (ProR w s) := by
 have HPA := hidM (parse_any s w hs hE)
 go_enter Tryz.func127, Tryz.ntmps127
 go_wp2_with fail
 refine HPA.out.mono ?_
 rintro e W1 ⟨r, hr, hb1, hres⟩
 have HR := hidM hr
 have HB1 := hidM hb1
 cases r with
 | err c =>
  obtain ⟨rfl, hc0⟩ := hres
  have hbe : (c != 0) = true := by simpa using hc0
  have hc := hidM hc0
  clear hr hb1 HPA
  go_wp2
  go_ret2
  exact ⟨_, HR.out, HB1.out, rfl, hc.out⟩
 | ok f ws m =>
  obtain ⟨v1, rfl, hown⟩ := hres
  obtain ⟨hMay, hWN, hln, hWB⟩ := prog_ok hr
  have hfs : FS QA W1 v1 f := hown.fs.arg
  obtain ⟨a1, c1, rfl⟩ := hfs.val
  have HFS := hidM hfs
  have HRU := hidM (run_any f _ W1 ((0, ⟨#[]⟩), 0) 0 hfs hln hWB (by decide))
  obtain ⟨z1, z2⟩ := run_zero f
  obtain ⟨⟨T1, T2, T3⟩, hT⟩ : ∃ T, runR f ((0, ⟨#[]⟩), 0) 0 = T := ⟨_, rfl⟩
  unfold RunR at HRU
  rw [hT] at HRU z1 z2
  simp only at HRU z1 z2
  clear hr hb1 HPA hfs hown hMay hWN hln hWB hT
  by_cases hc : cE f = 0
  ·have z1 := z1 hc
   have HC := hidM hc
   clear z2 hc
   rcases z1 with rfl | rfl
   ·go_wp2_with (go_at_call 129; refine HRU.out.mono ?_; rintro e W2 ⟨v2, rfl, ho2, hb2⟩)
    go_ret2
    exact ⟨_, HR.out, nxt HB1.out hb2, fun h => absurd HC.out h, fun _ => ⟨_, rfl, HFS.out.below hb2⟩⟩
   ·go_wp2_with (go_at_call 129; refine HRU.out.mono ?_; rintro e W2 ⟨v2, rfl, ho2, hb2⟩)
    go_ret2
    exact ⟨_, HR.out, nxt HB1.out hb2, fun h => absurd HC.out h, fun _ => ⟨_, rfl, HFS.out.below hb2⟩⟩
  ·have z2 := z2 hc
   have HC := hidM hc
   have h10 : cE f ≠ 10 := by rcases cE_vals f with h | h | h <;> rw [h] <;> decide
   rw [← z2] at h10 hc
   have HZ := hidM z2
   have hb1' : (T1 != 0) = true := by simpa using hc
   have hb2' : (T1 != 10) = true := by simpa using h10
   clear z1 z2 hc h10
   go_wp2_with (go_at_call 129; refine HRU.out.mono ?_; rintro e W2 ⟨v2, rfl, ho2, hb2⟩)
   go_ret2
   exact ⟨_, HR.out, nxt HB1.out hb2, fun _ => by rw [← HZ.out]; rfl, fun h => absurd h HC.out⟩
set_option maxRecDepth 100000
theorem mayM_of {agg bound fu : Int} {l : List Rc} (h1 : 0 ≤ fu ∧ fu ≤ 2000) (h2 : l.length ≤ 64) : mayM agg bound fu l = mayFo agg bound l := by
 unfold mayM mayFo
 rw [decide_eq_true h1, decide_eq_true h2, decide_eq_true (show l.length ≤ 1536 by omega)]
 simp
set_option maxHeartbeats 3200000 in
theorem lmap_any (j : Jb) (a5 : Option Addr) (n5 c5 : Nat) (u : Value) (l : List Rc) (w : World) (h : RS w u l) (hwf : Wf l) (hl : l.length ≤ 100000) (hp : j.prog.size ≤ 140737488351232) (hf : -9223372036854775808 ≤ j.fuel ∧ j.fuel ≤ 9223372036854775807) (hE : Env w) :
  Calls Tryz.prog 85 #[jobV j (.slice a5 n5 c5), u] w fun e w' => (∃ v', e = .returned (.tuple #[v', .int .i64 (mapRes j l).2]) ∧ OwnR w' w.heap.size v' (mapRes j l).1) ∧ Below w.heap.size w w' := by
 have hst : ∀ (W : World) (o : Obj), Below W.heap.size W (W.alloc o) := fun W o => (Below.refl _ _).alloc (Nat.le_refl _) _
 obtain ⟨W0, hW0⟩ : ∃ W0 : World, W0 = w.alloc (.cells #[.int .i64 j.id, .string j.prog, .int .i64 j.agg, .int .i64 j.bound, .int .i64 j.fuel, .slice a5 n5 c5, .int .i64 j.parts] 37) := ⟨_, rfl⟩
 have hb0 : Below w.heap.size w W0 := by rw [hW0]; exact hst _ _
 have B0 : BlkJ W0 w.heap.size j (.slice a5 n5 c5) := by rw [hW0]; exact BlkJ.new w _ _
 have h0 := h.below hb0
 obtain ⟨⟨M1, M2⟩, hM⟩ : ∃ M, M = mapRes j l := ⟨_, rfl⟩
 rw [← hM]
 have HP := hidM (fun r (hr : Prog j.prog r) => hM.trans (mapRes_of hr l))
 have HPA := hidM (program_any j.prog W0 hp (hE.low hb0))
 have HB0 := hidM hb0
 have HF0 := hidM B0
 have HW := hidM hW0.symm
 have HS := hidM h0
 have HST := hidM hst
 obtain ⟨r0, r1, r2, r3, r4, -, -⟩ := B0.cells
 obtain ⟨ju, cu, rfl, hsh⟩ := h0
 clear hM hW0 B0 h hst hb0 hE
 go_enter Tryz.func85, Tryz.ntmps85
 go_wp2_with fail
 rw [HW.out]
 refine HPA.out.mono ?_
 rintro e W1 ⟨r, hr, hb1, hres⟩
 have HR := hidM (HP.out r hr)
 have HB1 := hidM hb1
 cases r with
 | err c =>
  obtain ⟨rfl, hc0⟩ := hres
  have hbe : (c != 0) = true := by simpa using hc0
  rw [mapP_err] at HR
  clear hr hb1 HPA HP
  go_wp2
  go_ret2
  exact ⟨⟨_, by rw [(Prod.mk.inj HR.out).2]; rfl, by rw [(Prod.mk.inj HR.out).1]; exact World.ownsRow_nil _ _ _ _⟩, nxt HB0.out HB1.out⟩
 | ok f ws m =>
  obtain ⟨hres1, hres2⟩ := hres
  obtain ⟨hMay, hWN, hln, hWB⟩ := prog_ok hr
  by_cases hcE : cE f = 0
  ·obtain ⟨v1, rfl, hfs⟩ := hres2 hcE
   obtain ⟨a1, c1, rfl⟩ := hfs.val
   have HFS := hidM hfs
   have HCE := hidM hcE
   have HNO := hidM (fun (hm : mayM j.agg j.bound j.fuel l = false) => Prod.mk.inj (HR.out.trans (mapP_form hcE hm)))
   have HYES := hidM (fun (hm : mayM j.agg j.bound j.fuel l = true) => HR.out.trans (mapP_run hcE hm))
   have HFA := hidM (show ∀ W, Below W1.heap.size W1 W → W.cell? ⟨w.heap.size, 2, none⟩ = some (.int .i64 j.agg) ∧ W.cell? ⟨w.heap.size, 3, none⟩ = some (.int .i64 j.bound) ∧ W.cell? ⟨w.heap.size, 4, none⟩ = some (.int .i64 j.fuel) from fun W hW => by
    obtain ⟨-, -, z2, z3, z4, -, -⟩ := ((HF0.out.below hb1).below hW).cells
    exact ⟨z2, z3, z4⟩)
   obtain ⟨z2, z3, z4⟩ := HFA.out W1 (Below.refl _ _)
   have HMF := hidM (lmayFold_any j.agg j.bound _ l W1 (HS.out.below hb1) hwf hl)
   clear hr hb1 HPA HP hfs r0 r1 r2 r3 r4 hcE hres1 hres2
   by_cases g1 : j.fuel < 0
   ·have HN := hidM (HNO.out (by unfold mayM; rw [decide_eq_false (show ¬ (0 ≤ j.fuel ∧ j.fuel ≤ 2000) by omega), Bool.false_and, Bool.and_false]))
    clear HNO HYES
    go_wp2
    go_ret2
    exact ⟨⟨_, by rw [HN.out.2]; rfl, by rw [HN.out.1]; exact World.ownsRow_nil _ _ _ _⟩, nxt HB0.out HB1.out⟩
   ·by_cases g2 : 2000 < j.fuel
    ·have HN := hidM (HNO.out (by unfold mayM; rw [decide_eq_false (show ¬ (0 ≤ j.fuel ∧ j.fuel ≤ 2000) by omega), Bool.false_and, Bool.and_false]))
     clear HNO HYES
     go_wp2
     go_ret2
     exact ⟨⟨_, by rw [HN.out.2]; rfl, by rw [HN.out.1]; exact World.ownsRow_nil _ _ _ _⟩, nxt HB0.out HB1.out⟩
    ·by_cases g3 : 64 < l.length
     ·have HN := hidM (HNO.out (by unfold mayM; rw [decide_eq_false (show ¬ (l.length ≤ 64) by omega), Bool.false_and, Bool.and_false, Bool.and_false]))
      have g3i : (64 : Int) < (l.length : Int) := by omega
      have g3d : decide ((64 : Int) < (l.length : Int)) = true := decide_eq_true g3i
      clear HNO HYES
      go_wp2
      go_ret2
      exact ⟨⟨_, by rw [HN.out.2]; rfl, by rw [HN.out.1]; exact World.ownsRow_nil _ _ _ _⟩, nxt HB0.out HB1.out⟩
     ·have g3i : ¬ (64 : Int) < (l.length : Int) := by omega
      have g3d : decide ((64 : Int) < (l.length : Int)) = false := decide_eq_false g3i
      have hmm := mayM_of (agg := j.agg) (bound := j.bound) (fu := j.fuel) (l := l) (by omega) (by omega)
      rw [hmm] at HNO HYES
      cases g4 : mayFo j.agg j.bound l with
      | false =>
       have HN := hidM (HNO.out g4)
       rw [g4] at HMF
       clear HNO HYES hmm g4
       go_wp2_with (go_at_call 128; refine HMF.out.mono ?_; rintro e W2 ⟨rfl, hb2⟩)
       go_ret2
       exact ⟨⟨_, by rw [HN.out.2]; rfl, by rw [HN.out.1]; exact World.ownsRow_nil _ _ _ _⟩, nxt HB0.out (nxt HB1.out hb2)⟩
      | true =>
       have HY := hidM (HYES.out g4)
       rw [g4] at HMF
       clear HNO HYES hmm g4
       go_wp2_with (go_at_call 128; refine HMF.out.mono ?_; rintro e W2 ⟨rfl, hb2⟩)
       have HB3 := hidM (nxt HB1.out hb2)
       have HFW := hidM (show ∀ W, Below W2.heap.size W2 W → W.cell? ⟨w.heap.size, 4, none⟩ = some (.int .i64 j.fuel) ∧ FS QA W (.slice a1 f.len c1) f ∧ Below W2.heap.size W2 W from fun W hW => by
        obtain ⟨-, -, -, -, y4, -, -⟩ := (HF0.out.below (nxt HB3.out hW)).cells
        exact ⟨y4, HFS.out.below (nxt hb2 hW), hW⟩)
       clear hb2 z2 z3 z4 g1 g2
       go_loopw [8, 47] (fun vo i wr => ∃ (k : Nat) (acc : List Rc), k ≤ l.length ∧ i = .int .i64 k ∧ Hid (mapL f j.fuel (l.drop k) acc = (M1, M2)) ∧ acc.length ≤ 256 ∧ OwnR wr W2.heap.size vo acc ∧ Below W2.heap.size W2 wr) (fun _ i _ => l.length - (intOf i).toNat)
       case atStart => exact ⟨0, [], by omega, rfl, HY.out.symm, by simp, World.ownsRow_nil _ _ _ _, Below.refl _ _⟩
       case round =>
        rename World => w0
        obtain ⟨k, acc, hk, rfl, HO, hacc, ho, hbel⟩ := hrel
        obtain ⟨ao, co, rfl⟩ : ∃ a c, u8 = .slice a acc.length c := by
         obtain ⟨a, c, e, -⟩ := RS.own ho
         exact ⟨a, c, e⟩
        have HBEL := hidM hbel
        by_cases hlt : k < l.length
        ·obtain ⟨⟨⟨xa, xb⟩, xv⟩, hx⟩ := getSome hlt
         rcases hsh with hnil | ⟨b, off, rfl, hb, hat⟩
         ·rw [hnil] at hlt; simp at hlt
         have hki0 : (0 : Int) ≤ (k : Int) := by omega
         have hki : (k : Int) < (l.length : Int) := by omega
         have hbb : b < w0.heap.size := Nat.lt_of_lt_of_le hb (nxt HB3.out hbel).size
         obtain ⟨c0, c1', c2⟩ := (hat.below (nxt HB3.out hbel) hb) k _ hx
         simp only at c0 c1' c2
         obtain ⟨Wa, hWa⟩ : ∃ Wa : World, Wa = w0.alloc (.cells #[.int .i64 xa, .string xb, .int .i64 xv] 155) := ⟨_, rfl⟩
         have hba : Below w0.heap.size w0 Wa := by rw [hWa]; exact HST.out _ _
         have hnw : Wa.heap[w0.heap.size]? = some (.cells #[.int .i64 xa, .string xb, .int .i64 xv] 155 (0, 0)) := by rw [hWa]; exact heap_alloc_new w0 _
         obtain ⟨y4, yf, -⟩ := HFW.out Wa (nxt hbel hba)
         have HRUN := hidM (run_any f _ Wa ((xa, xb), xv) j.fuel yf hln hWB (by
          have := (hwf _ (List.mem_of_getElem? hx)).txt
          simp only at this ⊢
          omega))
         have h256 := runR_len256 f ((xa, xb), xv) j.fuel
         have hstep := HO.out
         rw [show l.drop k = ((xa, xb), xv) :: l.drop (k + 1) from by
          obtain ⟨q1, q2⟩ := List.getElem?_eq_some_iff.1 hx
          rw [List.drop_eq_getElem_cons q1, q2], mapL_cons] at hstep
         unfold RunR at HRUN
         obtain ⟨RR, hRR⟩ : ∃ RR, RR = runR f ((xa, xb), xv) j.fuel := ⟨_, rfl⟩
         rw [← hRR] at HRUN hstep h256
         obtain ⟨er, lf, out⟩ := RR
         simp only at HRUN hstep h256
         have HOW := hidM ho
         have HSTEP := hidM hstep
         have HBA := hidM hba
         have HWA := hidM hWa.symm
         have n0 : Wa.cell? ⟨w0.heap.size, 0, none⟩ = some (.int .i64 xa) := by simp only [World.cell?, hnw]; rfl
         have n1 : Wa.cell? ⟨w0.heap.size, 1, none⟩ = some (.string xb) := by simp only [World.cell?, hnw]; rfl
         have n2 : Wa.cell? ⟨w0.heap.size, 2, none⟩ = some (.int .i64 xv) := by simp only [World.cell?, hnw]; rfl
         obtain ⟨y4', -, -⟩ := HFW.out w0 hbel
         have hjb := block_lt_of_cell y4'
         simp only at hjb
         clear hx hat ho hbel HO hstep hRR hWa hba hnw yf
         have HAPP := hidM (fun (W5 : World) (v5 : Value) (hb5 : Below Wa.heap.size Wa W5) (ho5 : OwnR W5 Wa.heap.size v5 out) => by
          have hbV := nxt HBA.out hb5
          have hbX := nxt HBEL.out hbV
          obtain ⟨v8, W8, q1, q2, q3⟩ := append_rs 97 (HOW.out.below hbV) (RS.own ho5) (by omega) hbX.size
          exact (⟨v8, W8, q1, q2, hbX.grown q3 hbX.size (own_row (HOW.out.below hbV))⟩ : ∃ v8 W8, (Builtin.append_ #[97, 97] 97 #[.slice ao acc.length co, v5]).run Tryz.prog W5 = .ok v8 W8 ∧ OwnR W8 W2.heap.size v8 (acc ++ out) ∧ Below W2.heap.size W2 W8))
         by_cases he : er = 0
         ·subst he
          have hS := HSTEP.out
          rw [if_neg (by simp)] at hS
          by_cases hbig : 256 < (acc ++ out).length
          ·rw [if_pos hbig] at hS
           have HN := hidM (Prod.mk.inj hS)
           have hd : decide ((256 : Int) < ((acc ++ out).length : Int)) = true := decide_eq_true (by omega)
           have hd2 : decide ((256 : Int) < (acc.length : Int) + (out.length : Int)) = true := decide_eq_true (by rw [List.length_append] at hbig; omega)
           have hd3 : (256 : Int) < (acc.length : Int) + (out.length : Int) := by rw [List.length_append] at hbig; omega
           clear hS hbig HSTEP
           go_wp2_with (first
            | (go_at_call 129; rw [HWA.out]; refine HRUN.out.mono ?_; rintro e W5 ⟨v5, rfl, ho5, hb5⟩; obtain ⟨v8, W8, q1, q2, q3⟩ := HAPP.out _ _ hb5 ho5; obtain ⟨a6, c6, rfl⟩ : ∃ a c, v5 = .slice a out.length c := (by obtain ⟨a, c, e, -⟩ := RS.own ho5; exact ⟨a, c, e⟩); obtain ⟨a8, c8, rfl⟩ : ∃ a c, v8 = .slice a (acc ++ out).length c := (by obtain ⟨a, c, e, -⟩ := RS.own q2; exact ⟨a, c, e⟩); have U1 := hidM q1; have Q2 := hidM q2; have Q3 := hidM q3; clear q1 q2 q3 ho5)
            | (at_builtin; refine wpList_append_run _ rfl _ _ _ rfl _ _ _ W8 rfl rfl U1.out ?_))
           go_ret2
           exact ⟨⟨_, by rw [← HN.out.2]; rfl, by rw [← HN.out.1]; exact World.ownsRow_nil _ _ _ _⟩, nxt HB0.out (nxt HB3.out Q3.out)⟩
          ·rw [if_neg hbig] at hS
           have HN := hidM hS
           have hd : decide ((256 : Int) < ((acc ++ out).length : Int)) = false := decide_eq_false (by omega)
           have hle : (acc ++ out).length ≤ 256 := by omega
           have hd2 : decide ((256 : Int) < (acc.length : Int) + (out.length : Int)) = false := decide_eq_false (by rw [List.length_append] at hle; omega)
           have hd3 : ¬ (256 : Int) < (acc.length : Int) + (out.length : Int) := by rw [List.length_append] at hle; omega
           clear hS hbig HSTEP
           go_wp2_with (first
            | (go_at_call 129; rw [HWA.out]; refine HRUN.out.mono ?_; rintro e W5 ⟨v5, rfl, ho5, hb5⟩; obtain ⟨v8, W8, q1, q2, q3⟩ := HAPP.out _ _ hb5 ho5; obtain ⟨a6, c6, rfl⟩ : ∃ a c, v5 = .slice a out.length c := (by obtain ⟨a, c, e, -⟩ := RS.own ho5; exact ⟨a, c, e⟩); obtain ⟨a8, c8, rfl⟩ : ∃ a c, v8 = .slice a (acc ++ out).length c := (by obtain ⟨a, c, e, -⟩ := RS.own q2; exact ⟨a, c, e⟩); have U1 := hidM q1; have Q2 := hidM q2; have Q3 := hidM q3; clear q1 q2 q3 ho5)
            | (at_builtin; refine wpList_append_run _ rfl _ _ _ rfl _ _ _ W8 rfl rfl U1.out ?_))
           refine ⟨⟨k + 1, acc ++ out, by omega, by go_num, HN.out, hle, by rw [← List.length_append]; exact Q2.out, Q3.out⟩, ?_⟩
           simp only [intOf]
           omega
         ·have hbe : (er != 0) = true := by simpa using he
          have hS := HSTEP.out
          rw [if_pos he] at hS
          have HN := hidM (Prod.mk.inj hS)
          clear hS he HSTEP
          go_wp2_with (go_at_call 129; rw [HWA.out]; refine HRUN.out.mono ?_; rintro e W5 ⟨v5, rfl, ho5, hb5⟩; obtain ⟨a6, c6, rfl⟩ : ∃ a c, v5 = .slice a out.length c := (by obtain ⟨a, c, e, -⟩ := RS.own ho5; exact ⟨a, c, e⟩))
          go_ret2
          exact ⟨⟨_, by rw [← HN.out.2]; rfl, by rw [← HN.out.1]; exact World.ownsRow_nil _ _ _ _⟩, nxt HB0.out (nxt HB3.out (nxt HBEL.out (nxt HBA.out hb5)))⟩
        ·have hlt' : l.length ≤ k := by omega
         have hO := HO.out
         rw [mapL_end hlt'] at hO
         have HN := hidM (Prod.mk.inj hO)
         have hlti : ¬ (k : Int) < (l.length : Int) := by omega
         clear hO HO
         go_wp2
         go_ret2
         exact ⟨⟨_, by rw [← HN.out.2]; rfl, by rw [← HN.out.1]; exact ho.down3 (nxt HB0.out HB3.out).size⟩, nxt HB0.out (nxt HB3.out hbel)⟩
  ·have hres := hres1 hcE
   subst hres
   have hbe : (cE f != 0) = true := by simpa using hcE
   have HN := hidM (Prod.mk.inj (HR.out.trans (mapP_need hcE)))
   clear hr hb1 HPA HP hres1 hres2 r0 r1 r2 r3 r4 hcE
   go_wp2
   go_ret2
   exact ⟨⟨_, by rw [HN.out.2]; rfl, by rw [HN.out.1]; exact World.ownsRow_nil _ _ _ _⟩, nxt HB0.out HB1.out⟩
end Go.Proofs.YtclcgakfmcofaaaGreatDoor
