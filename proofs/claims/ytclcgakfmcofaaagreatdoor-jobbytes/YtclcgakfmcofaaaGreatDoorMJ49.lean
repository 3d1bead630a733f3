/- Texts laid together: JWak, JRd, JTkA, JRWith, JCopy, JStr. -/
import Derived.Test.YtclcgakfmcofaaaGreatDoorMJ47
import Derived.Test.YtclcgakfmcofaaaGreatDoorMJ48
import Derived.Test.YtclcgakfmcofaaaGreatDoorMJ46
import Derived.Test.YtclcgakfmcofaaaGreatDoorMJ29
import Derived.Test.YtclcgakfmcofaaaGreatDoorMJ10
import Derived.Test.YtclcgakfmcofaaaGreatDoorMJ2
import Derived.Test.YtclcgakfmcofaaaGreatDoorMJ30
import Derived.Test.YtclcgakfmcofaaaGreatDoorMJ28
import Derived.Test.YtclcgakfmcofaaaGreatDoorMJ22
/- The laws' wakes (stage 14). -/
namespace Go.Proofs.YtclcgakfmcofaaaGreatDoor
open Go.RowKit
set_option linter.unusedVariables false
set_option maxRecDepth 100000

def cK : Cfg := ⟨1, [(1, ⟨#[]⟩, [1])], 1, 16⟩
def jB : Jb := ⟨1, ⟨#[98]⟩, 1, 0, 0, 1⟩
def jE : Jb := ⟨1, ⟨#[]⟩, 1, 0, 0, 1⟩
theorem cK_ok : cfgB cK = true := by decide +kernel
theorem jB_ok : jobB jB [1] = true := by decide +kernel
theorem jE_ok : jobB jE [1] = true := by decide +kernel
theorem b_no : opR [98] = none := by decide +kernel
theorem jB_prog : Prog jB.prog (.err 7) := by
  unfold Prog
  rw [if_neg (by decide)]
  have e : splitG [] (L jB.prog) = [[98]] := by decide +kernel
  rw [e]
  exact PL.bad (by decide) (by rw [← opR_eq]; exact b_no) [] 0
theorem jE_prog : Prog jE.prog (.ok .nil [] 0) := by
  unfold Prog
  rw [if_neg (by decide)]
  have e : splitG [] (L jE.prog) = [] := by decide +kernel
  rw [e]
  exact PL.end0 0
theorem jB_valid : validRes cK jB [1] = 7 := validRes_err (by rw [cK_ok, jB_ok]; rfl) jB_prog
theorem nil_cE : cE .nil = 0 := by decide +kernel
theorem jE_valid : validRes cK jE [1] = 0 := by
  rw [validRes_recs (by rw [cK_ok, jE_ok]; rfl) jE_prog nil_cE]
  decide +kernel
theorem cK_recs : rcO cK 1 = [] := by
  unfold rcO
  rw [rcO_some (k := 0) cK_ok (by decide +kernel)]
  decide +kernel
theorem jE_map : mapRes jE [] = ([], 0) := by
  unfold mapRes
  rw [progOf_eq jE_prog]
  unfold mapP
  simp only
  rw [if_neg (by rw [nil_cE]; simp), if_pos (by decide +kernel)]
  rfl
theorem jE_fold : foldR jE.agg jE.bound.toNat [] = ([], 0) := rfl
theorem outRes_nilJ : ∃ s, outRes 1 1 [] = (s, 0) ∧ s.size = 8 := by
  have e1 : prt 1 [] = [[]] := prt_nil 1
  have e2 : outB 1 [[]] = frameOf (rowsBy 1 []) := by show frameOf (rowsBy 1 []) ++ (⟨#[]⟩ : ByteArray) = _; rw [app_nil]
  have e3 : (rowsBy 1 []).size = 0 := rfl
  have e4 : (outB 1 (prt 1 [])).size = 8 := by rw [e1, e2, frame_size, e3]
  refine ⟨outB 1 (prt 1 []), outRes_ok (fun m hm => ?_) (by rw [e4]; omega), e4⟩
  rw [e1] at hm
  simp at hm
  subst hm
  rw [e3]
  omega
theorem jE_whole : ∃ s, wholeRes cK jE [1] = (s, 0) ∧ s.size = 8 := by
  obtain ⟨s, h1, h2⟩ := outRes_nilJ
  have hm : togM cK jE [1] [] = ([], 0) := by
    unfold togM
    rw [cK_recs, jE_map]
    simp [togM]
  have ht : togRes cK jE [1] = (s, 0) := by
    rw [togRes_out hm (by rw [jE_fold])]
    rw [jE_fold]
    exact h1
  have hg : gathRes jE [] = (frameOf (rowsBy 1 []), 0) := by
    unfold gathRes gathP
    rw [jE_map]
    rw [if_neg (by simp), if_neg (by rw [jE_fold]; simp)]
    rw [jE_fold, if_neg ?_]
    · rfl
    · show ¬ 32704 < (frameOf (rowsBy 1 [])).size
      rw [frame_size, show (rowsBy 1 []).size = 0 from rfl]
      omega
  refine ⟨s, ?_, h2⟩
  rw [wholeRes_yes jE_valid, wholeOk_ok, ht]
  intro h
  obtain ⟨-, i, hi, he⟩ := mem_apRes.1 h
  simp at hi
  subst hi
  rw [cK_recs, hg] at he
  cases he
theorem nxtB {a b c : World} (h : Below a.heap.size a b) (k : Below b.heap.size b c) : Below a.heap.size a c := nxt h k
set_option maxHeartbeats 1600000 in
theorem wakes14_any (w : World) (hE : Env w) (hH : Halves w) : Calls Tryz.prog 15 #[] w (BoolR w true) := by
  have HN := hidM num14_any
  obtain ⟨W1, hW1⟩ : ∃ W1 : World, W1 = w.alloc (.cells #[.int .i64 1] 3) := ⟨_, rfl⟩
  obtain ⟨W2, hW2⟩ : ∃ W2 : World, W2 = W1.alloc (.cells #[.int .i64 1, .string ⟨#[]⟩, .slice (some ⟨w.heap.size, 0, none⟩) 1 1] 93) := ⟨_, rfl⟩
  obtain ⟨W3, hW3⟩ : ∃ W3 : World, W3 = W2.alloc (cfgO cK (.slice (some ⟨w.heap.size + 1, 0, none⟩) 1 1)) := ⟨_, rfl⟩
  obtain ⟨W4, hW4⟩ : ∃ W4 : World, W4 = W3.alloc (.cells #[.int .i64 1] 3) := ⟨_, rfl⟩
  obtain ⟨W5, hW5⟩ : ∃ W5 : World, W5 = W4.alloc (jobO jB (.slice (some ⟨w.heap.size + 1 + 1 + 1, 0, none⟩) 1 1)) := ⟨_, rfl⟩
  have s1 : W1.heap.size = w.heap.size + 1 := by rw [hW1]; simp
  have s2 : W2.heap.size = w.heap.size + 1 + 1 := by rw [hW2]; simp [s1]
  have s3 : W3.heap.size = w.heap.size + 1 + 1 + 1 := by rw [hW3]; simp [s2]
  have s4 : W4.heap.size = w.heap.size + 1 + 1 + 1 + 1 := by rw [hW4]; simp [s3]
  have b1 : Below w.heap.size w W1 := by rw [hW1]; exact stJ _ _
  have b2 : Below W1.heap.size W1 W2 := by rw [hW2]; exact stJ _ _
  have b3 : Below W2.heap.size W2 W3 := by rw [hW3]; exact stJ _ _
  have b4 : Below W3.heap.size W3 W4 := by rw [hW4]; exact stJ _ _
  have b5 : Below W4.heap.size W4 W5 := by rw [hW5]; exact stJ _ _
  have n1 : NS W1 (.slice (some ⟨w.heap.size, 0, none⟩) 1 1) [1] := by rw [hW1]; exact ns_one w 1
  have n4 : NS W4 (.slice (some ⟨w.heap.size + 1 + 1 + 1, 0, none⟩) 1 1) [1] := by rw [hW4, ← s3]; exact ns_one W3 1
  have BP : BlkP W2 W1.heap.size (.int .i64 1) (.string ⟨#[]⟩) (.slice (some ⟨w.heap.size, 0, none⟩) 1 1) := by rw [hW2]; exact BlkP.new W1 _ _ _
  rw [s1] at BP
  have hin : InC W2 cK (.slice (some ⟨w.heap.size + 1, 0, none⟩) 1 1) := by
    obtain ⟨x0, x1, x2⟩ := BP.cells
    refine ⟨by decide, by decide, by decide, ⟨_, 1, rfl, .inr ⟨w.heap.size + 1, 0, rfl, by omega, fun i s hs => ?_⟩⟩, by decide, fun s hs => ?_⟩
    · match i, hs with
      | 0, hs => simp [cK] at hs; subst hs; exact ⟨x0, x1, _, 1, x2, n1.below b2, by decide⟩
    · simp [cK] at hs
      subst hs
      exact ⟨by decide, by decide, by decide, by decide⟩
  have hin4 : InC W4 cK (.slice (some ⟨w.heap.size + 1, 0, none⟩) 1 1) := (hin.below b3).below b4
  have b04 : Below w.heap.size w W4 := nxt b1 (nxt b2 (nxt b3 b4))
  have C3 : BlkF W3 W2.heap.size (.int .i64 1) (.slice (some ⟨w.heap.size + 1, 0, none⟩) 1 1) (.int .i64 1) (.int .i64 16) := by rw [hW3]; exact BlkF.new W2 _ _ _ _
  rw [s2] at C3
  have C4 := C3.below b4
  have HJb := hidM (show ∀ W, Below W4.heap.size W4 W → InJ W jB (.slice (some ⟨w.heap.size + 1 + 1 + 1, 0, none⟩) 1 1) [1] ∧ InJ W jE (.slice (some ⟨w.heap.size + 1 + 1 + 1, 0, none⟩) 1 1) [1] from fun W hW => ⟨⟨n4.below hW, by decide, by decide, ⟨by decide, by decide⟩, ⟨by decide, by decide⟩, ⟨by decide, by decide⟩, ⟨by decide, by decide⟩, ⟨by decide, by decide⟩, fun x hx => by simp at hx; subst hx; exact ⟨by decide, by decide⟩⟩, ⟨n4.below hW, by decide, by decide, ⟨by decide, by decide⟩, ⟨by decide, by decide⟩, ⟨by decide, by decide⟩, ⟨by decide, by decide⟩, ⟨by decide, by decide⟩, fun x hx => by simp at hx; subst hx; exact ⟨by decide, by decide⟩⟩⟩)
  have HJ14 := hidM (show ∀ W, Below W4.heap.size W4 W → Job14 W cK (.slice (some ⟨w.heap.size + 1, 0, none⟩) 1 1) jB (.slice (some ⟨w.heap.size + 1 + 1 + 1, 0, none⟩) 1 1) [1] ∧ Job14 W cK (.slice (some ⟨w.heap.size + 1, 0, none⟩) 1 1) jE (.slice (some ⟨w.heap.size + 1 + 1 + 1, 0, none⟩) 1 1) [1] from fun W hW => ⟨⟨hin4.below hW, (HJb.out W hW).1, (hE.low b04).low hW, (hH.below b04 hH.pos).below hW (by have := hH.pos; have := b04.size; omega)⟩, ⟨hin4.below hW, (HJb.out W hW).2, (hE.low b04).low hW, (hH.below b04 hH.pos).below hW (by have := hH.pos; have := b04.size; omega)⟩⟩)
  have J5 : Blk7 W5 W4.heap.size (.int .i64 1) (.string ⟨#[98]⟩) (.int .i64 1) (.int .i64 0) (.int .i64 0) (.slice (some ⟨w.heap.size + 1 + 1 + 1, 0, none⟩) 1 1) (.int .i64 1) := by rw [hW5]; exact Blk7.new W4 _ _ _ _ _ _ _
  rw [s4] at J5
  have HVA := hidM (fun (W : World) (hW : Below W4.heap.size W4 W) => jvalid_any cK (.slice (some ⟨w.heap.size + 1, 0, none⟩) 1 1) jB (.slice (some ⟨w.heap.size + 1 + 1 + 1, 0, none⟩) 1 1) [1] W (HJ14.out W hW).1.cfg (HJ14.out W hW).1.job (HJ14.out W hW).1.env)
  have HWH := hidM (fun (W : World) (hW : Below W4.heap.size W4 W) => jwhole_any cK (.slice (some ⟨w.heap.size + 1, 0, none⟩) 1 1) jE (.slice (some ⟨w.heap.size + 1 + 1 + 1, 0, none⟩) 1 1) [1] W (HJ14.out W hW).2)
  obtain ⟨S, hS, hS8⟩ := jE_whole
  rw [jB_valid] at HVA
  rw [hS] at HWH
  have HC4 := hidM C4
  have HJ5 := hidM J5
  have HW := hidM (show ((((w.alloc (.cells #[.int .i64 1] 3)).alloc (.cells #[.int .i64 1, .string ⟨#[]⟩, .slice (some ⟨w.heap.size, 0, none⟩) 1 1] 93)).alloc (.cells #[.int .i64 1, .slice (some ⟨w.heap.size + 1, 0, none⟩) 1 1, .int .i64 1, .int .i64 16] 24)).alloc (.cells #[.int .i64 1] 3)).alloc (.cells #[.int .i64 1, .string ⟨#[98]⟩, .int .i64 1, .int .i64 0, .int .i64 0, .slice (some ⟨w.heap.size + 1 + 1 + 1, 0, none⟩) 1 1, .int .i64 1] 37) = W5 by rw [hW5, hW4, hW3, hW2, hW1]; rfl)
  have HB04 := hidM b04
  have HB5 := hidM b5
  have HS4 := hidM s4
  clear hW1 hW2 hW3 hW4 hW5 s1 s2 s3 b1 b2 b3 b4 b5 n1 n4 BP hin hin4 b04 C3 C4 J5 hS hE hH s4
  go_enter Tryz.func15, Tryz.ntmps15
  obtain ⟨q0, q1, q2, q3⟩ := (HC4.out.below HB5.out).cells
  obtain ⟨j0, j1, j2, j3, j4, j5, j6⟩ := HJ5.out.cells
  have HAX := hidM (show ∀ W6, Below W5.heap.size W5 W6 → Below W4.heap.size W4 (W6.setCell ⟨w.heap.size + 1 + 1 + 1 + 1, 1, none⟩ (.string ⟨#[]⟩)) ∧ Below w.heap.size w W6 ∧ BlkF W6 (w.heap.size + 1 + 1) (.int .i64 1) (.slice (some ⟨w.heap.size + 1, 0, none⟩) 1 1) (.int .i64 1) (.int .i64 16) ∧ Blk7 W6 (w.heap.size + 1 + 1 + 1 + 1) (.int .i64 1) (.string ⟨#[98]⟩) (.int .i64 1) (.int .i64 0) (.int .i64 0) (.slice (some ⟨w.heap.size + 1 + 1 + 1, 0, none⟩) 1 1) (.int .i64 1) from fun W6 h6 => ⟨(nxt HB5.out h6).setCell (p := ⟨w.heap.size + 1 + 1 + 1 + 1, 1, none⟩) (by have := HS4.out; show W4.heap.size ≤ w.heap.size + 1 + 1 + 1 + 1; omega) _, nxt HB04.out (nxt HB5.out h6), (HC4.out.below HB5.out).below h6, HJ5.out.below h6⟩)
  go_wp2_with fail
  rw [HW.out]
  refine (HVA.out W5 HB5.out).mono ?_
  rintro e W6 ⟨rfl, hb6⟩
  obtain ⟨hx1, hx2, hx3, hx4⟩ := HAX.out W6 hb6
  obtain ⟨q0, q1, q2, q3⟩ := hx3.cells
  obtain ⟨j0, j1, j2, j3, j4, j5, j6⟩ := hx4.cells
  have f1 := hx4.free 1
  have HW7 := hidM (HWH.out _ hx1)
  have hb7 := hx2.setCell (p := ⟨w.heap.size + 1 + 1 + 1 + 1, 1, none⟩) (by show w.heap.size ≤ w.heap.size + 1 + 1 + 1 + 1; omega) (.string ⟨#[]⟩)
  have HB7 := hidM hb7
  clear hb6 hx1 hx2 hx3 hx4 hb7
  go_wp2_with (first
    | (go_at_call 10; refine (HN.out _ _).mono ?_; rintro e W8 ⟨rfl, hw8⟩; subst hw8)
    | (go_at_call 18; refine HW7.out.mono ?_; clear HW7; rintro e W9 ⟨rfl, hb9⟩))
  go_ret
  exact ⟨rfl, nxtB HB7.out hb9⟩
end Go.Proofs.YtclcgakfmcofaaaGreatDoor
/- job's reader: number, size, text. -/
namespace Go.Proofs.YtclcgakfmcofaaaGreatDoor
open Go.RowKit
set_option linter.unusedVariables false
set_option maxRecDepth 100000

theorem takeL_err : ∀ (l : List UInt8) (i : Nat) (u : Int), (takeL l i u).2.2 ≠ 0 → (takeL l i u).1 = 0 ∧ (takeL l i u).2.1 = 0
  | [], i, u, _ => ⟨rfl, rfl⟩
  | c :: r, i, u, h => by
    rw [takeL] at h ⊢
    split at h
    · next h0 => rw [if_pos h0]; exact ⟨rfl, rfl⟩
    · next h0 =>
      rw [if_neg h0]
      split at h
      · next h1 => rw [if_pos h1]; exact takeL_err r _ _ h
      · next h1 =>
        rw [if_neg h1]
        split at h
        · next h2 => rw [if_pos h2]; exact ⟨rfl, rfl⟩
        · exact absurd rfl h
theorem takeOf_err {s : ByteArray} (h : (takeOf s).2.2 ≠ 0) : (takeOf s).1 = 0 ∧ (takeOf s).2.1 = 0 := takeL_err _ _ _ h
/-- At block b a reader stands: what is left, the first error. -/
def BlkT (T : TypeId) (W : World) (b : Nat) (s : Rd) : Prop := W.heap[b]? = some (.cells #[.string s.1, .int .i64 s.2] T (0, 0))
theorem BlkT.new (T : TypeId) (W : World) (s : ByteArray) (e : Int) : BlkT T (W.alloc (.cells #[.string s, .int .i64 e] T)) W.heap.size (s, e) := heap_alloc_new W _
theorem BlkT.lt {T : TypeId} {W : World} {b : Nat} {s : Rd} (h : BlkT T W b s) : b < W.heap.size := (Array.getElem?_eq_some_iff.1 h).1
theorem BlkT.cells {T : TypeId} {W : World} {b : Nat} {s : Rd} (h : BlkT T W b s) : W.cell? ⟨b, 0, none⟩ = some (.string s.1) ∧ W.cell? ⟨b, 1, none⟩ = some (.int .i64 s.2) := by
  refine ⟨?_, ?_⟩ <;> (simp only [World.cell?]; rw [show W.heap[b]? = _ from h]; rfl)
theorem BlkT.free {T : TypeId} {W : World} {b : Nat} {s : Rd} (h : BlkT T W b s) (o : Nat) : W.frozen? ⟨b, o, none⟩ = false := by simp [World.frozen?, show W.heap[b]? = _ from h]
theorem BlkT.put0 {T : TypeId} {W : World} {b : Nat} {s : Rd} (h : BlkT T W b s) (t : ByteArray) : BlkT T (W.setCell ⟨b, 0, none⟩ (.string t)) b (t, s.2) := by
  show (W.heap.modify _ _)[b]? = _
  rw [Array.getElem?_modify, show W.heap[b]? = _ from h]
  simp
theorem BlkT.put1 {T : TypeId} {W : World} {b : Nat} {s : Rd} (h : BlkT T W b s) (e : Int) : BlkT T (W.setCell ⟨b, 1, none⟩ (.int .i64 e)) b (s.1, e) := by
  show (W.heap.modify _ _)[b]? = _
  rw [Array.getElem?_modify, show W.heap[b]? = _ from h]
  simp
theorem BlkT.far {T : TypeId} {W W' : World} {b : Nat} {s : Rd} (h : BlkT T W b s) (hb : W'.heap[b]? = W.heap[b]?) : BlkT T W' b s := by unfold BlkT; rw [hb]; exact h
theorem jrI_size (s : Rd) : (jrI s).2.1.size ≤ s.1.size := by
  unfold jrI
  split
  · exact Nat.le_refl _
  · split
    · exact Nat.le_refl _
    · simp only [from', ByteArray.size_extract]; omega
/-- What the reader's calls do: a number told, the reader moved on, nothing else changed. -/
def NumP (T : TypeId) (w : World) (b : Nat) (t : Int × Rd) (e : Ending) (w' : World) : Prop := e = .returned (.int .i64 t.1) ∧ BlkT T w' b t.2 ∧ w.grownBy w' (some b)
theorem NumP.mk0 {T : TypeId} {w : World} {b : Nat} {t : Int × Rd} {n : Int} (hn : n = t.1) (h : BlkT T w b t.2) : NumP T w b t (.returned (.int .i64 n)) w := ⟨by rw [hn], h, World.grownBy.refl _ _⟩
set_option maxHeartbeats 400000 in
theorem jnumber_any (b : Nat) (s : Rd) (w : World) (h : BlkT 85 w b s) (hs : s.1.size ≤ 100000) :
    Calls Tryz.prog 44 #[.pointer (some ⟨b, 0, none⟩)] w (NumP 85 w b (jrI s)) := by
  obtain ⟨t, e⟩ := s
  have HT := hidM (take_any t w (by simp only at hs; unfold maxLen; omega))
  obtain ⟨c0, c1⟩ := h.cells
  have f0 := h.free 0
  have f1 := h.free 1
  have H := hidM h
  simp only at c0 c1 hs
  by_cases he : e = 0
  · subst he
    have f1' := (h.put0 t).free 1
    by_cases h0 : (takeOf t).2.2 = 0
    · have hR := jrI_ok h0
      obtain ⟨q, e1, hq, -⟩ := take_back t (takeOf t).1 (takeOf t).2.1 (by rw [← h0])
      rw [e1] at HT hR
      rw [h0] at HT
      have hfe : from' t (q : Int) = t.extract q t.size := by unfold from'; rw [Int.toNat_natCast]
      rw [hfe] at hR
      have hqi : (0 : Int) ≤ (q : Int) := by omega
      have hqs : (q : Int) ≤ (t.size : Int) := by omega
      have fr := (h.put0 (t.extract q t.size)).free 1
      have HR := hidM hR
      have HE := hidM (show NumP 85 w b (jrI (t, 0)) (.returned (.int .i64 (takeOf t).1)) ((w.setCell ⟨b, 0, none⟩ (.string (t.extract q t.size))).setCell ⟨b, 1, none⟩ (.int .i64 0)) from ⟨by rw [hR], by rw [hR]; exact (h.put0 _).put1 0, (grownBy_set _ _ _ _).trans (grownBy_set _ _ _ _)⟩)
      clear hR hfe e1 h0 h f1'
      go_enter Tryz.func44, Tryz.ntmps44
      go_wp2_with (first
        | (go_at_call 82; refine HT.out.mono ?_; rintro e w' ⟨rfl, rfl⟩))
      go_ret
      exact HE.out
    · have hR := jrI_err h0
      obtain ⟨g1, g2⟩ := takeOf_err h0
      rw [g1, g2] at HT
      have fr := (h.put0 (t.extract 0 t.size)).free 1
      have hx : t.extract 0 t.size = t := by apply ba_ext; show L _ = L _; simp [L]
      have HX := hidM hx
      have HE := hidM (show NumP 85 w b (jrI (t, 0)) (.returned (.int .i64 0)) ((w.setCell ⟨b, 0, none⟩ (.string (t.extract 0 t.size))).setCell ⟨b, 1, none⟩ (.int .i64 (takeOf t).2.2)) from ⟨by rw [hR], by rw [hR, hx]; exact (h.put0 _).put1 _, (grownBy_set _ _ _ _).trans (grownBy_set _ _ _ _)⟩)
      have hts : (0 : Int) ≤ (t.size : Int) := by omega
      clear hR h0 h f1' g1 g2 hx
      go_enter Tryz.func44, Tryz.ntmps44
      go_wp2_with (first
        | (go_at_call 82; refine HT.out.mono ?_; rintro e w' ⟨rfl, rfl⟩))
      go_ret
      have HE2 := HE.out
      rw [HX.out] at HE2
      first
        | exact HE.out
        | exact HE2
  · have HR := hidM (jrI_bad (s := (t, e)) he)
    have hd : (e != 0) = true := by simp [he]
    have hd2 : (e == 0) = false := by simp [he]
    clear h
    go_enter Tryz.func44, Tryz.ntmps44
    go_wp2
    go_ret
    rw [HR.out]
    exact NumP.mk0 rfl H.out
set_option maxHeartbeats 400000 in
theorem jsize_any (b : Nat) (m : Int) (s : Rd) (w : World) (h : BlkT 85 w b s) (hs : s.1.size ≤ 100000) :
    Calls Tryz.prog 46 #[.pointer (some ⟨b, 0, none⟩), .int .i64 m] w (NumP 85 w b (jrZ m s)) := by
  have HN := hidM (jnumber_any b s w h hs)
  have HF := hidM (fun W => isFrom_any 0 (jrI s).1 m W)
  have hz : jrZ m s = if decide (0 ≤ (jrI s).1 ∧ (jrI s).1 ≤ m) then jrI s else (0, ((jrI s).2.1, 7)) := by
    unfold jrZ
    by_cases h : 0 ≤ (jrI s).1 ∧ (jrI s).1 ≤ m
    · rw [if_pos h, decide_eq_true h]; rfl
    · rw [if_neg h, decide_eq_false h]; rfl
  rw [hz]
  unfold NumP at HN
  clear h hz
  generalize jrI s = R at HN HF
  obtain ⟨n, r⟩ := R
  simp only at HN HF ⊢
  cases hd : decide (0 ≤ n ∧ n ≤ m) with
  | true =>
    rw [hd] at HF
    clear hd
    go_enter Tryz.func46, Tryz.ntmps46
    go_wp2_with (first
      | (go_at_call 44; refine HN.out.mono ?_; rintro e w1 ⟨rfl, hb, hg⟩; have HB := hidM hb; have HG := hidM hg; clear hb hg)
      | (go_at_call 41; refine (HF.out _).mono ?_; rintro e w2 ⟨rfl, rfl⟩))
    go_ret
    exact ⟨rfl, HB.out, HG.out⟩
  | false =>
    rw [hd] at HF
    clear hd
    go_enter Tryz.func46, Tryz.ntmps46
    go_wp2_with (first
      | (go_at_call 44; refine HN.out.mono ?_; rintro e w1 ⟨rfl, hb, hg⟩; have HB := hidM hb; have HG := hidM hg; have f1 := hb.free 1; obtain ⟨c0, c1⟩ := hb.cells; clear hb hg)
      | (go_at_call 41; refine (HF.out _).mono ?_; rintro e w2 ⟨rfl, rfl⟩))
    go_ret
    exact ⟨rfl, HB.out.put1 7, HG.out.trans (grownBy_set _ _ _ _)⟩
def TxtP (T : TypeId) (w : World) (b : Nat) (t : ByteArray × Rd) (e : Ending) (w' : World) : Prop := e = .returned (.string t.1) ∧ BlkT T w' b t.2 ∧ w.grownBy w' (some b)
theorem jrZ_bd {m : Int} (hm : 0 ≤ m) (s : Rd) : 0 ≤ (jrZ m s).1 ∧ (jrZ m s).1 ≤ m ∧ (jrZ m s).2.1.size ≤ s.1.size := by
  have := jrI_size s
  unfold jrZ
  split
  · next h => exact ⟨h.1, h.2, this⟩
  · exact ⟨by simp, hm, this⟩
set_option maxHeartbeats 400000 in
theorem jtext_any (b : Nat) (s : Rd) (w : World) (h : BlkT 85 w b s) (hs : s.1.size ≤ 100000) :
    Calls Tryz.prog 45 #[.pointer (some ⟨b, 0, none⟩)] w (TxtP 85 w b (jrX s)) := by
  have HN := hidM (jsize_any b 512 s w h hs)
  obtain ⟨k1, k2, k3⟩ := jrZ_bd (m := 512) (by decide) s
  unfold jrX
  unfold NumP at HN
  clear h
  generalize jrZ 512 s = R at HN k1 k2 k3
  obtain ⟨n, r, e⟩ := R
  simp only at HN k1 k2 k3 ⊢
  obtain ⟨q, rfl⟩ : ∃ q : Nat, n = (q : Int) := ⟨n.toNat, by omega⟩
  by_cases hlt : (r.size : Int) < (q : Int)
  · rw [if_pos hlt]
    go_enter Tryz.func45, Tryz.ntmps45
    go_wp2_with (first
      | (go_at_call 46; refine HN.out.mono ?_; rintro e w1 ⟨rfl, hb, hg⟩; have HB := hidM hb; have HG := hidM hg; have f1 := hb.free 1; obtain ⟨c0, c1⟩ := hb.cells; clear hb hg))
    go_ret
    exact ⟨rfl, HB.out.put1 6, HG.out.trans (grownBy_set _ _ _ _)⟩
  · rw [if_neg hlt]
    have hqs : (q : Int) ≤ (r.size : Int) := by omega
    have hq0 : (0 : Int) ≤ (q : Int) := by omega
    have HE := hidM (show ∀ w1 : World, BlkT 85 w1 b (r, e) → w.grownBy w1 (some b) → TxtP 85 w b (r.extract 0 (q : Int).toNat, (from' r (q : Int), e)) (.returned (.string (r.extract 0 q))) (w1.setCell ⟨b, 0, none⟩ (.string (r.extract q r.size))) from fun w1 h1 h2 => ⟨by rw [Int.toNat_natCast], by unfold from'; rw [Int.toNat_natCast]; exact h1.put0 _, h2.trans (grownBy_set _ _ _ _)⟩)
    go_enter Tryz.func45, Tryz.ntmps45
    go_wp2_with (first
      | (go_at_call 46; refine HN.out.mono ?_; rintro e w1 ⟨rfl, hb, hg⟩; have HB := hidM hb; have HG := hidM hg; have f0 := hb.free 0; obtain ⟨c0, c1⟩ := hb.cells; clear hb hg))
    go_ret
    exact HE.out _ HB.out HG.out
end Go.Proofs.YtclcgakfmcofaaaGreatDoor
/- A job that is being taken: the result's block, the reader, the job so far. -/
namespace Go.Proofs.YtclcgakfmcofaaaGreatDoor
open Go.RowKit
set_option linter.unusedVariables false
set_option maxRecDepth 100000

structure JT (T : TypeId) (w W : World) (s : Rd) (j : Jb) (u : Value) : Prop where
  r : BlkT T W (w.heap.size + 1) s
  j : Blk7 W (w.heap.size + 1 + 1) (.int .i64 j.id) (.string j.prog) (.int .i64 j.agg) (.int .i64 j.bound) (.int .i64 j.fuel) u (.int .i64 j.parts)
  z : Blk7 W w.heap.size (.int .i64 0) (.string ⟨#[]⟩) (.int .i64 0) (.int .i64 0) (.int .i64 0) (.slice none 0 0) (.int .i64 0)
  bel : Below w.heap.size w W
  sz : s.1.size ≤ 100000
section
variable {T : TypeId} {w W W' : World} {s s' : Rd} {j : Jb} {u : Value}
theorem JT.start (T : TypeId) (w : World) (s : ByteArray) (hs : s.size ≤ 100000) : JT T w (((w.alloc (.cells #[.int .i64 0, .string ⟨#[]⟩, .int .i64 0, .int .i64 0, .int .i64 0, .slice none 0 0, .int .i64 0] 37)).alloc (.cells #[.string s, .int .i64 0] T)).alloc (.cells #[.int .i64 0, .string ⟨#[]⟩, .int .i64 0, .int .i64 0, .int .i64 0, .slice none 0 0, .int .i64 0] 37)) (s, 0) j00 (.slice none 0 0) := by
  have h1 := Blk7.new w (.int .i64 0) (.string ⟨#[]⟩) (.int .i64 0) (.int .i64 0) (.int .i64 0) (.slice none 0 0) (.int .i64 0)
  generalize hA : w.alloc (.cells #[.int .i64 0, .string ⟨#[]⟩, .int .i64 0, .int .i64 0, .int .i64 0, .slice none 0 0, .int .i64 0] 37) = A at h1
  have hAs : A.heap.size = w.heap.size + 1 := by rw [← hA]; simp
  have hb1 : Below w.heap.size w A := by rw [← hA]; exact stJ w _
  have h2 := BlkT.new T A s 0
  have hb2 := stJ A (.cells #[.string s, .int .i64 0] T)
  have h1' := h1.below hb2
  generalize hBe : A.alloc (.cells #[.string s, .int .i64 0] T) = B at h2 hb2 h1'
  have hBs : B.heap.size = w.heap.size + 1 + 1 := by rw [← hBe]; simp [hAs]
  have h3 := Blk7.new B (.int .i64 0) (.string ⟨#[]⟩) (.int .i64 0) (.int .i64 0) (.int .i64 0) (.slice none 0 0) (.int .i64 0)
  have hb3 := stJ B (.cells #[.int .i64 0, .string ⟨#[]⟩, .int .i64 0, .int .i64 0, .int .i64 0, .slice none 0 0, .int .i64 0] 37)
  rw [hAs] at h2
  rw [hBs] at h3
  exact ⟨h2.far (hb3.block _ h2.lt), h3, h1'.below hb3, nxt (nxt hb1 hb2) hb3, hs⟩
theorem JT.call (h : JT T w W s j u) (hb : BlkT T W' (w.heap.size + 1) s') (hg : W.grownBy W' (some (w.heap.size + 1))) (hs : s'.1.size ≤ s.1.size) : JT T w W' s' j u := by
  have h1 := h.j.lt
  have h2 := h.z.lt
  refine ⟨hb, h.j.far (hg.block _ h1 (fun e => by injection e with e; omega)), h.z.far (hg.block _ h2 (fun e => by injection e with e; omega)), ⟨hg.os.trans h.bel.os, hg.tape.trans h.bel.tape, hg.output.trans h.bel.output, Nat.le_trans h.bel.size hg.size, fun k hk => (hg.block k (Nat.lt_of_lt_of_le hk h.bel.size) (fun e => by injection e with e; omega)).trans (h.bel.block k hk)⟩, Nat.le_trans hs h.sz⟩
theorem JT.far (h : JT T w W s j u) (o : Nat) (y : Value) : BlkT T (W.setCell ⟨w.heap.size + 1 + 1, o, none⟩ y) (w.heap.size + 1) s ∧ Blk7 (W.setCell ⟨w.heap.size + 1 + 1, o, none⟩ y) w.heap.size (.int .i64 0) (.string ⟨#[]⟩) (.int .i64 0) (.int .i64 0) (.int .i64 0) (.slice none 0 0) (.int .i64 0) ∧ Below w.heap.size w (W.setCell ⟨w.heap.size + 1 + 1, o, none⟩ y) :=
  ⟨h.r.far (Below.heap_setCell _ _ _ _ (by show w.heap.size + 1 ≠ w.heap.size + 1 + 1; omega)), h.z.far (Below.heap_setCell _ _ _ _ (by show w.heap.size ≠ w.heap.size + 1 + 1; omega)), h.bel.setCell (p := ⟨w.heap.size + 1 + 1, o, none⟩) (by show w.heap.size ≤ w.heap.size + 1 + 1; omega) y⟩
theorem JT.set0 (h : JT T w W s j u) (n : Int) : JT T w (W.setCell ⟨w.heap.size + 1 + 1, 0, none⟩ (.int .i64 n)) s ⟨n, j.prog, j.agg, j.bound, j.fuel, j.parts⟩ u := ⟨(h.far _ _).1, h.j.set0 _, (h.far _ _).2.1, (h.far _ _).2.2, h.sz⟩
theorem JT.set1 (h : JT T w W s j u) (n : ByteArray) : JT T w (W.setCell ⟨w.heap.size + 1 + 1, 1, none⟩ (.string n)) s ⟨j.id, n, j.agg, j.bound, j.fuel, j.parts⟩ u := ⟨(h.far _ _).1, h.j.set1 _, (h.far _ _).2.1, (h.far _ _).2.2, h.sz⟩
theorem JT.set2 (h : JT T w W s j u) (n : Int) : JT T w (W.setCell ⟨w.heap.size + 1 + 1, 2, none⟩ (.int .i64 n)) s ⟨j.id, j.prog, n, j.bound, j.fuel, j.parts⟩ u := ⟨(h.far _ _).1, h.j.set2 _, (h.far _ _).2.1, (h.far _ _).2.2, h.sz⟩
theorem JT.set3 (h : JT T w W s j u) (n : Int) : JT T w (W.setCell ⟨w.heap.size + 1 + 1, 3, none⟩ (.int .i64 n)) s ⟨j.id, j.prog, j.agg, n, j.fuel, j.parts⟩ u := ⟨(h.far _ _).1, h.j.set3 _, (h.far _ _).2.1, (h.far _ _).2.2, h.sz⟩
theorem JT.set4 (h : JT T w W s j u) (n : Int) : JT T w (W.setCell ⟨w.heap.size + 1 + 1, 4, none⟩ (.int .i64 n)) s ⟨j.id, j.prog, j.agg, j.bound, n, j.parts⟩ u := ⟨(h.far _ _).1, h.j.set4 _, (h.far _ _).2.1, (h.far _ _).2.2, h.sz⟩
theorem JT.set5 (h : JT T w W s j u) (v : Value) : JT T w (W.setCell ⟨w.heap.size + 1 + 1, 5, none⟩ v) s j v := ⟨(h.far _ _).1, h.j.set5 _, (h.far _ _).2.1, (h.far _ _).2.2, h.sz⟩
theorem JT.set6 (h : JT T w W s j u) (n : Int) : JT T w (W.setCell ⟨w.heap.size + 1 + 1, 6, none⟩ (.int .i64 n)) s ⟨j.id, j.prog, j.agg, j.bound, j.fuel, n⟩ u := ⟨(h.far _ _).1, h.j.set6 _, (h.far _ _).2.1, (h.far _ _).2.2, h.sz⟩
theorem JT.below (h : JT T w W s j u) (hb : Below W.heap.size W W') : JT T w W' s j u := ⟨h.r.far (hb.block _ h.r.lt), h.j.below hb, h.z.below hb, nxt h.bel hb, h.sz⟩
theorem JT.own {v : Value} {l : List Int} (h : JT T w W s j u) (ho : OwnN W (w.heap.size + 3) v l) (hg : W.grownBy W' v.ownBlock) : JT T w W' s j u := by
  have hne : ∀ k, k < w.heap.size + 3 → some k ≠ v.ownBlock := fun k hk e => by
    rcases ho.2 with ⟨rfl, -⟩ | ⟨g, cap, cur, rfl, hge, -⟩
    · cases e
    · have e : some k = some g := e
      injection e with e
      omega
  exact ⟨h.r.far (hg.block _ h.r.lt (hne _ (by omega))), h.j.far (hg.block _ h.j.lt (hne _ (by omega))), h.z.far (hg.block _ h.z.lt (hne _ (by omega))), ⟨hg.os.trans h.bel.os, hg.tape.trans h.bel.tape, hg.output.trans h.bel.output, Nat.le_trans h.bel.size hg.size, fun k hk => (hg.block k (Nat.lt_of_lt_of_le hk h.bel.size) (hne _ (by omega))).trans (h.bel.block k hk)⟩, h.sz⟩
/-- What there is to be read and written. -/
structure JTf (w W : World) (s : Rd) (j : Jb) (u : Value) : Prop where
  r0 : W.cell? ⟨w.heap.size + 1, 0, none⟩ = some (.string s.1)
  r1 : W.cell? ⟨w.heap.size + 1, 1, none⟩ = some (.int .i64 s.2)
  c0 : W.cell? ⟨w.heap.size + 1 + 1, 0, none⟩ = some (.int .i64 j.id)
  c1 : W.cell? ⟨w.heap.size + 1 + 1, 1, none⟩ = some (.string j.prog)
  c2 : W.cell? ⟨w.heap.size + 1 + 1, 2, none⟩ = some (.int .i64 j.agg)
  c3 : W.cell? ⟨w.heap.size + 1 + 1, 3, none⟩ = some (.int .i64 j.bound)
  c4 : W.cell? ⟨w.heap.size + 1 + 1, 4, none⟩ = some (.int .i64 j.fuel)
  c5 : W.cell? ⟨w.heap.size + 1 + 1, 5, none⟩ = some u
  c6 : W.cell? ⟨w.heap.size + 1 + 1, 6, none⟩ = some (.int .i64 j.parts)
  f : ∀ o, W.frozen? ⟨w.heap.size + 1 + 1, o, none⟩ = false
  g : ∀ o, W.frozen? ⟨w.heap.size + 1, o, none⟩ = false
theorem JT.facts (h : JT T w W s j u) : JTf w W s j u := by
  obtain ⟨c0, c1, c2, c3, c4, c5, c6⟩ := h.j.cells
  obtain ⟨r0, r1⟩ := h.r.cells
  exact ⟨r0, r1, c0, c1, c2, c3, c4, c5, c6, h.j.free, h.r.free⟩
/-- One number more. -/
theorem JT.push {l : List Int} {n : Int} (h : JT T w W s j u) (ho : OwnN W (w.heap.size + 3) u l) (hl : l.length ≤ 1000) :
    ∃ v4 W4, (Builtin.append_ #[25, 25] 25 #[u, .slice (some ⟨W.heap.size, 0, none⟩) 1 1]).run Tryz.prog (W.alloc (.cells #[.int .i64 n] 3)) = .ok v4 W4 ∧ W4.frozen? ⟨w.heap.size + 1 + 1, 5, none⟩ = false ∧ (∃ u', W4.cell? ⟨w.heap.size + 1 + 1, 5, none⟩ = some u') ∧ (∃ a m c, v4 = .slice a m c) ∧ JT T w (W4.setCell ⟨w.heap.size + 1 + 1, 5, none⟩ v4) s j v4 ∧ OwnN (W4.setCell ⟨w.heap.size + 1 + 1, 5, none⟩ v4) (w.heap.size + 3) v4 (l ++ [n]) := by
  have hA := h.below (stJ W (.cells #[.int .i64 n] 3))
  have oA := ho.below (stJ W (.cells #[.int .i64 n] 3))
  have nA : NS (W.alloc (.cells #[.int .i64 n] 3)) (.slice (some ⟨W.heap.size, 0, none⟩) 1 1) [n] := ⟨_, _, rfl, .inr ⟨W.heap.size, 0, rfl, by simp, fun i x hx => by
    cases i with
    | zero =>
      simp at hx
      subst hx
      show (match (W.alloc (.cells #[.int .i64 n] 3)).heap[W.heap.size]? with | some (Obj.cells c _ _) => c[0]? | _ => none) = _
      rw [heap_alloc_new W (.cells #[.int .i64 n] 3)]
      rfl
    | succ i => simp at hx⟩⟩
  obtain ⟨v4, W4, q1, q2, q3, -⟩ := append_is 25 oA nA (by simp; omega) (by have := h.j.lt; simp; omega)
  have h4 := hA.own oA q3
  exact ⟨v4, W4, q1, h4.j.free 5, ⟨_, h4.facts.c5⟩, (by obtain ⟨a, c, e⟩ := q2.shape; exact ⟨_, _, _, e⟩), h4.set5 v4, q2.grown (grownBy_set _ _ _ _) (by omega)⟩
end
theorem jrK_snoc : ∀ (k : Nat) (s : Rd) (acc : List Int), jrK (k + 1) s acc = ((jrK k s acc).1 ++ [(jrI (jrK k s acc).2).1], (jrI (jrK k s acc).2).2)
  | 0, s, acc => rfl
  | k + 1, s, acc => by
    rw [jrK, jrK_snoc k, jrK]
theorem jrK_len : ∀ (k : Nat) (s : Rd) (acc : List Int), (jrK k s acc).1.length = acc.length + k
  | 0, s, acc => rfl
  | k + 1, s, acc => by rw [jrK, jrK_len k]; simp; omega
theorem jrX_size (s : Rd) : (jrX s).2.1.size ≤ s.1.size := by
  have := (jrZ_bd (m := 512) (by decide) s).2.2
  unfold jrX
  split
  · exact this
  · simp only [from', ByteArray.size_extract]; omega
/-- What Take answers. -/
def JTR (w : World) (r : (Jb × List Int) × Int) (e : Ending) (w' : World) : Prop := (∃ v', e = .returned (.tuple #[jobV r.1.1 v', .int .i64 r.2]) ∧ OwnN w' w.heap.size v' r.1.2) ∧ Below w.heap.size w w'
theorem jEnd_left {j : Jb} {l : List Int} {s : Rd} (h0 : s.2 = 0) (h : 0 < s.1.size) : jEnd j l s = ((j00, []), 7) := by unfold jEnd; rw [if_neg (by simpa using h0), if_pos (.inl h)]
theorem jEnd_may {j : Jb} {l : List Int} {s : Rd} (h0 : s.2 = 0) (hb : jobB j l = false) : jEnd j l s = ((j00, []), 7) := by unfold jEnd; rw [if_neg (by simpa using h0), if_pos (.inr hb)]
theorem jEnd_ok {j : Jb} {l : List Int} {s : Rd} (h0 : s.2 = 0) (h : ¬ 0 < s.1.size) (hb : jobB j l = true) : jEnd j l s = ((j, l), 0) := by unfold jEnd; rw [if_neg (by simpa using h0), if_neg (by rintro (g | g); exact h g; rw [hb] at g; cases g)]
theorem jr_bad_k {z : Int × Rd} {k : List Int × Rd} {q : Int × Rd} {n : Nat} (hk : k = jrK n z.2 []) (hq : q = jrI k.2) (h : z.2.2 ≠ 0) : q.2 = z.2 := by
  obtain ⟨l, e⟩ := jrK_bad n [] h
  rw [e] at hk
  rw [hq, hk, jrI_bad h]
theorem jr_bad_p {p g b f z q : Int × Rd} {t : ByteArray × Rd} {k : List Int × Rd} {n : Nat} (hg : g = jrI t.2) (hb : b = jrI g.2) (hf : f = jrI b.2) (hz : z = jrZ 6 f.2) (hk : k = jrK n z.2 []) (hq : q = jrI k.2) (h : t.2.2 ≠ 0) : q.2 = t.2 := by
  have e1 : g = (0, t.2) := by rw [hg, jrI_bad h]
  have e2 : b = (0, t.2) := by rw [hb, e1, jrI_bad h]
  have e3 : f = (0, t.2) := by rw [hf, e2, jrI_bad h]
  have e4 : z = (0, t.2) := by rw [hz, e3, jrZ_bad (by decide) h]
  have := jr_bad_k hk hq (by rw [e4]; exact h)
  rw [this, e4]
theorem jr_end_p {p g b f z q : Int × Rd} {t : ByteArray × Rd} {k : List Int × Rd} {n : Nat} (hg : g = jrI t.2) (hb : b = jrI g.2) (hf : f = jrI b.2) (hz : z = jrZ 6 f.2) (hk : k = jrK n z.2 []) (hq : q = jrI k.2) {e : Int} {r : ByteArray} {x : ByteArray} (ht : t = (x, (r, e))) (h : e ≠ 0) (j : Jb) (l : List Int) : jEnd j l q.2 = ((j00, []), e) := by
  have h' : t.2.2 ≠ 0 := by rw [ht]; exact h
  have e1 := jr_bad_p (p := p) hg hb hf hz hk hq h'
  rw [e1, ht, jEnd_bad h]
theorem jr_end_k {z : Int × Rd} {k : List Int × Rd} {q : Int × Rd} {n : Nat} (hk : k = jrK n z.2 []) (hq : q = jrI k.2) {m e : Int} {r : ByteArray} (ht : z = (m, (r, e))) (h : e ≠ 0) (j : Jb) (l : List Int) : jEnd j l q.2 = ((j00, []), e) := by
  have h' : z.2.2 ≠ 0 := by rw [ht]; exact h
  have e1 := jr_bad_k hk hq h'
  rw [e1, ht, jEnd_bad h]
theorem jrK_stop : ∀ (n m : Nat) (s : Rd), m ≤ n → (jrK m s []).2.2 ≠ 0 → (jrK n s []).2 = (jrK m s []).2
  | 0, m, s, h, _ => by rw [show m = 0 by omega]
  | n + 1, m, s, h, he => by
    by_cases e : m = n + 1
    · rw [e]
    · have ih := jrK_stop n m s (by omega) he
      rw [jrK_snoc]
      simp only
      rw [ih, jrI_bad he]
/-- An error, or nothing read: the text is empty. -/
theorem jrI_zero {s : Rd} (h : (jrI s).2.2 ≠ 0) : (jrI s).1 = 0 := by
  unfold jrI at h ⊢
  split
  · rfl
  · split
    · rfl
    · next h1 h2 => rw [if_neg h1, if_neg h2] at h; exact absurd rfl h
theorem jrZ_err {m : Int} (hm : 0 ≤ m) {s : Rd} (h : (jrI s).2.2 ≠ 0) : jrZ m s = jrI s := by
  have e := jrI_zero h
  unfold jrZ
  rw [if_pos (by rw [e]; exact ⟨Int.le_refl _, hm⟩)]
theorem jrZ_out {m : Int} {s : Rd} (h : ¬ (0 ≤ (jrI s).1 ∧ (jrI s).1 ≤ m)) : jrZ m s = (0, ((jrI s).2.1, 7)) := by unfold jrZ; rw [if_neg h]
theorem jrZ_in {m : Int} {s : Rd} (h : 0 ≤ (jrI s).1 ∧ (jrI s).1 ≤ m) : jrZ m s = jrI s := by unfold jrZ; rw [if_pos h]
theorem txt_zero (r : ByteArray) : r.extract 0 (0 : Int).toNat = ⟨#[]⟩ ∧ from' r 0 = r := by
  constructor
  · apply ba_ext; show L _ = L _; simp [L]
  · unfold from'; simp
theorem jrX_err {s : Rd} (h : (jrI s).2.2 ≠ 0) : jrX s = (⟨#[]⟩, (jrI s).2) := by
  unfold jrX
  rw [jrZ_err (by decide) h, jrI_zero h, if_neg (by omega), (txt_zero _).1, (txt_zero _).2]
theorem jrX_out {s : Rd} (h : ¬ (0 ≤ (jrI s).1 ∧ (jrI s).1 ≤ 512)) : jrX s = (⟨#[]⟩, ((jrI s).2.1, 7)) := by
  unfold jrX
  rw [jrZ_out h]
  simp only
  rw [if_neg (by omega), (txt_zero _).1, (txt_zero _).2]
theorem jrX_cut {s : Rd} (h : 0 ≤ (jrI s).1 ∧ (jrI s).1 ≤ 512) (hc : ((jrI s).2.1.size : Int) < (jrI s).1) : jrX s = (⟨#[]⟩, ((jrI s).2.1, 6)) := by
  unfold jrX
  rw [jrZ_in h, if_pos hc]
theorem jrX_ok {s : Rd} (h : 0 ≤ (jrI s).1 ∧ (jrI s).1 ≤ 512) (hc : ¬ ((jrI s).2.1.size : Int) < (jrI s).1) : jrX s = ((jrI s).2.1.extract 0 (jrI s).1.toNat, (from' (jrI s).2.1 (jrI s).1, (jrI s).2.2)) := by
  unfold jrX
  rw [jrZ_in h, if_neg hc]
theorem below7 {w W : World} {b : Nat} (h : Below w.heap.size w W) (hb : w.heap.size ≤ b) (y0 y1 y2 y3 y4 y5 y6 : Value) : Below w.heap.size w (((((((W.setCell ⟨b, 0, none⟩ y0).setCell ⟨b, 1, none⟩ y1).setCell ⟨b, 2, none⟩ y2).setCell ⟨b, 3, none⟩ y3).setCell ⟨b, 4, none⟩ y4).setCell ⟨b, 5, none⟩ y5).setCell ⟨b, 6, none⟩ y6) :=
  ((((((h.setCell (p := ⟨b, 0, none⟩) hb y0).setCell (p := ⟨b, 1, none⟩) hb y1).setCell (p := ⟨b, 2, none⟩) hb y2).setCell (p := ⟨b, 3, none⟩) hb y3).setCell (p := ⟨b, 4, none⟩) hb y4).setCell (p := ⟨b, 5, none⟩) hb y5).setCell (p := ⟨b, 6, none⟩) hb y6
theorem own7 {W : World} {b B : Nat} {v : Value} {l : List Int} (h : OwnN W B v l) (hb : b < B) (y0 y1 y2 y3 y4 y5 y6 : Value) : OwnN (((((((W.setCell ⟨b, 0, none⟩ y0).setCell ⟨b, 1, none⟩ y1).setCell ⟨b, 2, none⟩ y2).setCell ⟨b, 3, none⟩ y3).setCell ⟨b, 4, none⟩ y4).setCell ⟨b, 5, none⟩ y5).setCell ⟨b, 6, none⟩ y6) B v l :=
  ((((((h.grown (grownBy_set _ b _ y0) hb).grown (grownBy_set _ b _ y1) hb).grown (grownBy_set _ b _ y2) hb).grown (grownBy_set _ b _ y3) hb).grown (grownBy_set _ b _ y4) hb).grown (grownBy_set _ b _ y5) hb).grown (grownBy_set _ b _ y6) hb
end Go.Proofs.YtclcgakfmcofaaaGreatDoor
/- The page's own CopyNumbers, In, With. -/
namespace Go.Proofs.YtclcgakfmcofaaaGreatDoor
open Go.RowKit
set_option linter.unusedVariables false
set_option maxRecDepth 100000
/-- .. put in so far. -/
structure WithTo (n : Int) (a : List Int) (b : Bool) (m : List Int) : Prop where
  no : b = false → m = a ∧ ∀ z ∈ a, z < n
  yes : b = true → m = ins n a ∧ ∃ z ∈ a, n < z
theorem ins_len (n : Int) : ∀ a : List Int, (ins n a).length ≤ a.length + 1
  | [] => by simp [ins]
  | y :: a => by
    unfold ins
    split
    · simp
    · split
      · simp
      · have := ins_len n a; simp; omega
theorem WithTo.len {n : Int} {a m : List Int} {b : Bool} (h : WithTo n a b m) : m.length ≤ a.length + 1 := by
  cases b with
  | false => rw [(h.no rfl).1]; omega
  | true => rw [(h.yes rfl).1]; exact ins_len n a
end Go.Proofs.YtclcgakfmcofaaaGreatDoor
/- The helpers: jobs compared, jobs copied. -/
namespace Go.Proofs.YtclcgakfmcofaaaGreatDoor
open Go.RowKit
set_option linter.unusedVariables false
set_option maxRecDepth 100000

set_option maxHeartbeats 1600000 in
theorem eqjob_any (j : Jb) (l : List Int) (v u : Value) (w : World) (hv : NS w v l) (hu : NS w u l) (hl : l.length ≤ 17592186043904) : Calls Tryz.prog 13 #[jobV j v, jobV j u] w fun e w' => e = .returned (.bool true) ∧ Below w.heap.size w w' := by
  obtain ⟨va, vc, rfl, -⟩ := id hv
  obtain ⟨ua, uc, rfl, -⟩ := id hu
  obtain ⟨W0, hW0⟩ : ∃ W0 : World, W0 = (w.alloc (jobO j (.slice va l.length vc))).alloc (jobO j (.slice ua l.length uc)) := ⟨_, rfl⟩
  have hb0 : Below w.heap.size w W0 := by rw [hW0]; exact nxt (stJ _ _) (stJ _ _)
  have B0 : Blk7 W0 w.heap.size (.int .i64 j.id) (.string j.prog) (.int .i64 j.agg) (.int .i64 j.bound) (.int .i64 j.fuel) (.slice va l.length vc) (.int .i64 j.parts) := by rw [hW0]; exact (Blk7.new w _ _ _ _ _ _ _).below (stJ _ _)
  have B1 : Blk7 W0 (w.heap.size + 1) (.int .i64 j.id) (.string j.prog) (.int .i64 j.agg) (.int .i64 j.bound) (.int .i64 j.fuel) (.slice ua l.length uc) (.int .i64 j.parts) := by rw [hW0]; simpa using Blk7.new (w.alloc (jobO j (.slice va l.length vc))) (.int .i64 j.id) (.string j.prog) (.int .i64 j.agg) (.int .i64 j.bound) (.int .i64 j.fuel) (.slice ua l.length uc) (.int .i64 j.parts)
  have HE := hidM (eqnums_any _ _ l W0 (hv.below hb0) (hu.below hb0) hl)
  have HF := hidM (show ∀ W, Below W0.heap.size W0 W → W.cell? ⟨w.heap.size, 6, none⟩ = some (.int .i64 j.parts) ∧ W.cell? ⟨w.heap.size + 1, 6, none⟩ = some (.int .i64 j.parts) from fun W hW => ⟨(B0.below hW).cells.2.2.2.2.2.2, (B1.below hW).cells.2.2.2.2.2.2⟩)
  obtain ⟨a0, a1, a2, a3, a4, a5, a6⟩ := B0.cells
  obtain ⟨c0, c1, c2, c3, c4, c5, c6⟩ := B1.cells
  have HW := hidM hW0.symm
  have HB := hidM hb0
  clear hW0 hb0 B0 B1 hv hu
  go_enter Tryz.func13, Tryz.ntmps13
  go_wp2_with fail
  rw [HW.out]
  refine HE.out.mono ?_
  rintro e W1 ⟨rfl, hd1⟩
  have hb1 := hd1.below W0.heap.size
  obtain ⟨z6, y6⟩ := HF.out W1 hb1
  go_wp2
  go_ret
  exact ⟨rfl, nxt HB.out hb1⟩
end Go.Proofs.YtclcgakfmcofaaaGreatDoor
/- Texts in a row of the call's own. -/
namespace Go.Proofs.YtclcgakfmcofaaaGreatDoor
open Go.RowKit
set_option linter.unusedVariables false
set_option maxRecDepth 100000

theorem Tryz.info9J : (Tryz.prog.info? 9).map (fun i => (i.zero, i.size, i.bytes)) = some (some (.string ⟨#[]⟩), 1, 16) := by kernel_rfl
theorem own_rowSt {w : World} {base : Nat} {v : Value} {l : List ByteArray} (h : OwnS w base v l) : ∀ k, v.ownBlock = some k → base ≤ k := by
  intro k hk
  rcases h.2 with ⟨rfl, -⟩ | ⟨g, cap, cur, rfl, hg, -⟩
  · cases hk
  · have e : some g = some k := hk
    injection e with e
    omega
/-- A literal of texts. -/
theorem own_lit {W : World} {base : Nat} {l : List ByteArray} {cur : Array Value} (hc : cur.toList = flatS l) (hb : base ≤ W.heap.size) (hl : l.length ≤ 100000) : OwnS (W.alloc (.cells cur 9)) base (.slice (some ⟨W.heap.size, 0, none⟩) l.length l.length) l := by
  have hsz : cur.size = l.length := by rw [← Array.length_toList, hc]; simp [flatS]
  refine ⟨by simp [flatS], .inr ⟨W.heap.size, l.length, cur, rfl, hb, heap_alloc_new W _, Nat.le_refl _, by unfold maxLen; omega, by omega, ?_⟩⟩
  rw [hc, List.take_of_length_le (by simp [flatS])]
/-- Texts more. -/
theorem push_strs {W : World} {base : Nat} {v : Value} {l m : List ByteArray} {cur : Array Value} (ho : OwnS W base v l) (hc : cur.toList = flatS m) (hl : l.length + m.length ≤ 1000000) (hb : base ≤ W.heap.size) :
    ∃ v4 W4, (Builtin.append_ #[32, 32] 32 #[v, .slice (some ⟨W.heap.size, 0, none⟩) m.length m.length]).run Tryz.prog (W.alloc (.cells cur 9)) = .ok v4 W4 ∧ OwnS W4 base v4 (l ++ m) ∧ Below base W W4 := by
  obtain ⟨i0, hi, hz0, hz1, hz2⟩ := info_parts Tryz.info9J
  have hal := stJ W (.cells cur 9)
  have hoA := ho.below hal
  obtain ⟨v', w', hr, h2, h3, _, h5⟩ := run_append_own_at (P := Tryz.prog) (W.alloc (.cells cur 9)) base 32 32 9 i0 _ 1 16 Tryz.underlying32 hi hz0 hz1 hz2 rfl (by decide) v l.length (flatS l) hoA ⟨W.heap.size, 0, none⟩ m.length m.length (flatS m) (by simp [flatS]) (fun j u hu => by
    rw [Addr.add_lit]
    show (match (W.alloc (.cells cur 9)).heap[W.heap.size]? with | some (Obj.cells c _ _) => c[0 + j]? | _ => none) = _
    rw [heap_alloc_new W (.cells cur 9)]
    show cur[0 + j]? = _
    rw [Nat.zero_add, ← Array.getElem?_toList, hc]
    exact hu) (by intro u hu; simp [flatS] at hu; obtain ⟨x, _, rfl⟩ := hu; rfl) (by unfold maxLen; omega) (by omega) (Nat.le_trans hb hal.size)
  refine ⟨v', w', hr, ?_, (hal.mono hb).grown h3 (Nat.le_trans hb hal.size) (own_rowSt ho)⟩
  unfold OwnS
  rw [show flatS (l ++ m) = flatS l ++ flatS m by simp [flatS], List.length_append]
  exact h2
end Go.Proofs.YtclcgakfmcofaaaGreatDoor
