/- Texts laid together: KEq, WCmp, KPlain. -/
import Derived.Test.YtclcgakfmcofaaaGreatDoorRows
import Derived.Test.YtclcgakfmcofaaaGreatDoorMJ1
import Derived.WalkKit
import Derived.WalkSpells
import Derived.Laws.StructEq
import Derived.Lib.Strings
import Derived.Lib.Walk
import Derived.Lib.Bytealg
import Derived.Shelf.SlGeneric
import Derived.Shelf.SlicesG.Cmp
import Derived.Ground.SlgcProg
import Derived.Sort.Grow
import Derived.Deep.QuietTactic
import Derived.Lib.Small
import Derived.Shelf.SlSortCmp.Insertion
/- == at keys. -/
namespace Go.Proofs.YtclcgakfmcofaaaGreatDoor
open Go.RowKit
set_option linter.unusedVariables false
set_option maxRecDepth 100000

/-! ### == at keys -/
end Go.Proofs.YtclcgakfmcofaaaGreatDoor
/- How two keys stand: cmp.Compare, strings.Compare, key.Cmp, the page's own Cmp. -/
namespace Go.Proofs.YtclcgakfmcofaaaGreatDoor
open Go.RowKit Go.Shelf
open Go.Sort (grow)
set_option linter.unusedVariables false
set_option maxRecDepth 100000

shelf_lay_g SlLaysC2.n5 Slgc 5 at Tryz 158 as Tryz.cmpInt

theorem cmpint_any (x y : Int) (w : World) : Calls Tryz.prog 158 #[.int .i64 x, .int .i64 y] w fun e w' => e = .returned (.int .i64 (Lib.compareInt x y)) ∧ w' = w := by
  have h := AnyG.cmp_Compare_int Tryz.cmpInt x y w
  exact h

/-! ### strings.Compare -/
set_option maxHeartbeats 1000000 in
set_option maxRecDepth 100000 in
theorem cmpString_any (a b : ByteArray) (w : World) :
    Calls Tryz.prog 196 #[.string a, .string b] w fun e w' => e = .returned (.int .i64 (Lib.compareBytes a.data.toList b.data.toList)) ∧ w' = w := by
  go_enter Tryz.func196, Tryz.ntmps196
  go_wp2
  rw [run_callFunc_extern Tryz.func220 (by kernel_rfl) (by kernel_rfl) (by kernel_rfl) (e := Extern.BytealgCompare.compare) (by kernel_rfl), Lib.run_compareString]
  simp only [Result.andThen]
  rw [Oper.upon_value]
  go_wp2
  go_ret
  exact ⟨rfl, rfl⟩
set_option maxHeartbeats 1000000 in
theorem scompare_any (a b : ByteArray) (w : World) :
    Calls Tryz.prog 159 #[.string a, .string b] w fun e w' => e = .returned (.int .i64 (Lib.compareBytes a.data.toList b.data.toList)) ∧ w' = w := by
  go_enter Tryz.func159, Tryz.ntmps159
  go_wp2_with (go_at_call 196; refine (cmpString_any _ _ _).mono ?_; rintro e w' ⟨rfl, rfl⟩)
  go_ret
  exact ⟨rfl, rfl⟩

/-! ### key.Cmp -/
set_option maxHeartbeats 1000000 in
theorem kcmp_any (x y : Ky) (W : World) : Calls Tryz.prog 125 #[.agg #[.int .i64 x.1, .string x.2], .agg #[.int .i64 y.1, .string y.2]] W fun e w' => e = .returned (.int .i64 (cfK x y)) ∧ ∃ q os', w' = grow (W.drewN q) os' := by
  have hcon := fun W' => cmpint_any x.1 y.1 W'
  have hcon2 := fun W' => scompare_any x.2 y.2 W'
  rw [cfK_eq]
  generalize Lib.compareInt x.1 y.1 = r at hcon ⊢
  generalize Lib.compareBytes x.2.data.toList y.2.data.toList = r2 at hcon2 ⊢
  by_cases hr : r = 0
  · subst hr
    go_enter Tryz.func125, Tryz.ntmps125
    go_wp2_with (first | (go_at_call 158; refine (hcon _).mono ?_; rintro e w' ⟨rfl, rfl⟩) | (go_at_call 159; refine (hcon2 _).mono ?_; rintro e w' ⟨rfl, rfl⟩))
    go_ret
    exact ⟨rfl, 0, _, by rw [Go.Sort.alloc_eq_grow, Go.Sort.alloc_eq_grow, Go.Sort.grow_grow]; rfl⟩
  · go_enter Tryz.func125, Tryz.ntmps125
    go_wp2_with (first | (go_at_call 158; refine (hcon _).mono ?_; rintro e w' ⟨rfl, rfl⟩) | (go_at_call 159; refine (hcon2 _).mono ?_; rintro e w' ⟨rfl, rfl⟩))
    go_ret
    exact ⟨rfl, 0, _, by rw [Go.Sort.alloc_eq_grow, Go.Sort.alloc_eq_grow, Go.Sort.grow_grow]; rfl⟩

theorem below_grow (W : World) (q : Nat) (os : Array Obj) : Below W.heap.size W (grow (W.drewN q) os) :=
  ⟨rfl, rfl, rfl, by simp [grow], fun k hk => by
    show (W.heap ++ os)[k]? = W.heap[k]?
    rw [Array.getElem?_append_left hk]⟩

end Go.Proofs.YtclcgakfmcofaaaGreatDoor
/- Keys as pairs of a number and a text: how two stand, what it is to be sorted, to be counted. -/
namespace Go.Proofs.YtclcgakfmcofaaaGreatDoor
open Go.Sort
set_option linter.unusedVariables false
set_option maxRecDepth 100000


theorem lt_cfK (x y : Ky) : ltOf cfK x y = ltK x y := by
  unfold ltOf cfK
  by_cases h : ltK x y = true
  · simp [h]
  · have h' : ltK x y = false := by simpa using h
    by_cases h2 : x = y
    · rw [if_neg h, if_pos h2, h']; rfl
    · rw [if_neg h, if_neg h2, h']; rfl
theorem cfK_lt0 (x y : Ky) : decide (cfK x y < 0) = ltK x y := lt_cfK x y

/-! ### Sorted -/
def Srt (l s : List Ky) : Prop := s.Perm l ∧ s.Pairwise (fun x y => ltK y x = false)

theorem sorted_eq : ∀ {s t : List Ky}, s.Perm t → s.Pairwise (fun x y => ltK y x = false) → t.Pairwise (fun x y => ltK y x = false) → s = t
  | [], t, h, _, _ => (List.nil_perm.1 h).symm
  | a :: s, [], h, _, _ => by have := h.length_eq; simp at this
  | a :: s, b :: t, h, h1, h2 => by
    have e : a = b := by
      have ha : a ∈ b :: t := h.mem_iff.1 (List.mem_cons_self)
      have hb : b ∈ a :: s := h.mem_iff.2 (List.mem_cons_self)
      rcases List.mem_cons.1 ha with e | ha
      · exact e
      rcases List.mem_cons.1 hb with e | hb
      · exact e.symm
      exact ltK_total ((List.pairwise_cons.1 h2).1 a ha) ((List.pairwise_cons.1 h1).1 b hb)
    subst e
    rw [sorted_eq (List.Perm.cons_inv h) (List.pairwise_cons.1 h1).2 (List.pairwise_cons.1 h2).2]
theorem Srt.unique {l s t : List Ky} (h1 : Srt l s) (h2 : Srt l t) : s = t := sorted_eq (h1.1.trans h2.1.symm) h1.2 h2.2
theorem Srt.nil : Srt [] [] := ⟨.nil, .nil⟩
/-- One more is put where it belongs. -/
theorem Srt.put {l s : List Ky} {x : Ky} {n : Nat} (h : Srt l s) (h1 : ∀ y ∈ s.take n, ltK x y = false) (h2 : ∀ y ∈ s.drop n, ltK x y = true) : Srt (l ++ [x]) (s.take n ++ [x] ++ s.drop n) := by
  constructor
  · have : (s.take n ++ [x] ++ s.drop n).Perm (s ++ [x]) := by
      rw [List.append_assoc]
      refine ((List.perm_append_comm (l₁ := [x]) (l₂ := s.drop n)).append_left _).trans ?_
      rw [← List.append_assoc, List.take_append_drop]
    exact this.trans (h.1.append_right _)
  · have hs := h.2
    rw [← List.take_append_drop n s] at hs
    rw [List.pairwise_append] at hs
    obtain ⟨p1, p2, p3⟩ := hs
    rw [List.append_assoc, List.pairwise_append]
    refine ⟨p1, ?_, ?_⟩
    · rw [List.singleton_append, List.pairwise_cons]
      exact ⟨fun y hy => ltK_asymm (h2 y hy), p2⟩
    · intro a ha b hb
      rw [List.singleton_append, List.mem_cons] at hb
      rcases hb with rfl | hb
      · exact h1 a ha
      · exact p3 a ha b hb

/-! ### Counted -/
/-- How often x is among l. -/
def cnt (l : List Ky) (x : Ky) : Nat := l.countP fun y => decide (y = x)
theorem cnt_app (l m : List Ky) (x : Ky) : cnt (l ++ m) x = cnt l x + cnt m x := List.countP_append
theorem cnt_one (x y : Ky) : cnt [y] x = if y = x then 1 else 0 := by
  unfold cnt
  by_cases h : y = x <;> simp [h]
theorem cnt_same (x : Ky) : cnt [x] x = 1 := by rw [cnt_one, if_pos rfl]
theorem cnt_diff {x y : Ky} (h : y ≠ x) : cnt [y] x = 0 := by rw [cnt_one, if_neg h]
theorem cnt_pos {l : List Ky} {x : Ky} (h : x ∈ l) : 0 < cnt l x := List.countP_pos_iff.2 ⟨x, h, by simp⟩
theorem cnt_zero {l : List Ky} {x : Ky} (h : x ∉ l) : cnt l x = 0 := List.countP_eq_zero.2 fun y hy => by simp; exact fun e => h (e ▸ hy)
def Cnt (l ks : List Ky) (ms : List Int) : Prop := ks.Pairwise (fun x y => ltK x y = true) ∧ (∀ x, x ∈ ks ↔ x ∈ l) ∧ ms = ks.map fun x => (cnt l x : Int)

theorem Cnt.unique {l ks ks' : List Ky} {ms ms' : List Int} (h1 : Cnt l ks ms) (h2 : Cnt l ks' ms') : ks = ks' ∧ ms = ms' := by
  have e := strict_eq (fun x => (h1.2.1 x).trans (h2.2.1 x).symm) h1.1 h2.1
  subst e
  exact ⟨rfl, by rw [h1.2.2, h2.2.2]⟩
theorem Cnt.perm {l l' ks : List Ky} {ms : List Int} (h : Cnt l ks ms) (hp : l.Perm l') : Cnt l' ks ms :=
  ⟨h.1, fun x => (h.2.1 x).trans hp.mem_iff, by rw [h.2.2]; exact List.map_congr_left fun x _ => by show (cnt l x : Int) = cnt l' x; unfold cnt; rw [hp.countP_eq]⟩
theorem Cnt.nil : Cnt [] [] [] := ⟨.nil, by simp, rfl⟩
theorem Cnt.length {l ks : List Ky} {ms : List Int} (h : Cnt l ks ms) : ms.length = ks.length := by rw [h.2.2]; simp
theorem Cnt.pos {l ks : List Ky} {ms : List Int} (h : Cnt l ks ms) {i : Nat} (hi : i < ms.length) : 1 ≤ ms[i] := by
  obtain ⟨h1, h2, rfl⟩ := h
  simp at hi ⊢
  have := cnt_pos ((h2 _).1 (List.getElem_mem hi))
  omega
theorem sum_ind0 (a : Ky) : ∀ (ks : List Ky), a ∉ ks → (ks.map fun x => (cnt [a] x : Int)).sum = 0
  | [], _ => rfl
  | k :: ks, hn => by
    rw [List.mem_cons] at hn
    rw [List.map_cons, List.sum_cons, sum_ind0 a ks (fun h => hn (.inr h)), cnt_diff (fun e => hn (.inl e))]
    rfl
theorem sum_ind (a : Ky) : ∀ (ks : List Ky), ks.Nodup → a ∈ ks → (ks.map fun x => (cnt [a] x : Int)).sum = 1
  | [], _, h => by simp at h
  | k :: ks, hn, h => by
    obtain ⟨h1, h2⟩ := List.nodup_cons.1 hn
    rw [List.map_cons, List.sum_cons]
    by_cases e : a = k
    · subst e; rw [cnt_same, sum_ind0 a ks h1]; rfl
    · rw [cnt_diff e, sum_ind a ks h2 (by simpa [e] using h)]; rfl
theorem sum_add (f g : Ky → Int) : ∀ ks : List Ky, (ks.map fun x => f x + g x).sum = (ks.map f).sum + (ks.map g).sum
  | [] => rfl
  | k :: ks => by simp only [List.map_cons, List.sum_cons, sum_add f g ks]; omega
theorem sum_zero : ∀ ks : List Ky, (ks.map fun x => (cnt [] x : Int)).sum = 0
  | [] => rfl
  | k :: ks => by rw [List.map_cons, List.sum_cons, sum_zero ks]; rfl
theorem sum_counts (ks : List Ky) (hn : ks.Nodup) : ∀ l : List Ky, (∀ x ∈ l, x ∈ ks) → (ks.map fun x => (cnt l x : Int)).sum = l.length
  | [], _ => sum_zero ks
  | a :: l, h => by
    have e : (ks.map fun x => (cnt (a :: l) x : Int)) = ks.map fun x => (cnt [a] x : Int) + (cnt l x : Int) := by
      refine List.map_congr_left fun x _ => ?_
      rw [show a :: l = [a] ++ l from rfl, cnt_app]
      simp
    rw [e, sum_add, sum_counts ks hn l (fun x hx => h x (List.mem_cons_of_mem _ hx)), sum_ind a ks hn (h a List.mem_cons_self)]
    simp; omega
theorem Cnt.nodup {l ks : List Ky} {ms : List Int} (h : Cnt l ks ms) : ks.Nodup := h.1.imp (fun h => ltK_ne h)
theorem Cnt.sum {l ks : List Ky} {ms : List Int} (h : Cnt l ks ms) : ms.sum = l.length := by
  rw [h.2.2]; exact sum_counts ks h.nodup l fun x hx => (h.2.1 x).2 hx
/-- One more that stands behind all. -/
theorem Cnt.new {l ks : List Ky} {ms : List Int} {x : Ky} (h : Cnt l ks ms) (hx : ∀ y ∈ l, ltK y x = true) : Cnt (l ++ [x]) (ks ++ [x]) (ms ++ [1]) := by
  have hn : x ∉ l := fun hm => by have := hx x hm; rw [ltK_irrefl] at this; cases this
  refine ⟨?_, ?_, ?_⟩
  · rw [List.pairwise_append]
    refine ⟨h.1, by simp, fun a ha b hb => ?_⟩
    rw [List.mem_singleton] at hb
    subst hb
    exact hx a ((h.2.1 a).1 ha)
  · intro y; simp [h.2.1 y]
  · rw [List.map_append, h.2.2]
    congr 1
    · refine List.map_congr_left fun y hy => ?_
      have : y ≠ x := fun e => hn (e ▸ (h.2.1 y).1 hy)
      rw [cnt_app, cnt_diff this.symm]; rfl
    · simp [cnt_app, cnt_zero hn, cnt_same]
/-- One more of the last. -/
theorem Cnt.more {l ks : List Ky} {ms : List Int} {x : Ky} {m : Int} (h : Cnt l (ks ++ [x]) (ms ++ [m])) : Cnt (l ++ [x]) (ks ++ [x]) (ms ++ [m + 1]) := by
  have hx : x ∈ l := (h.2.1 x).1 (by simp)
  refine ⟨h.1, fun y => by rw [h.2.1 y]; simp; intro e; exact e ▸ hx, ?_⟩
  have e := h.2.2
  rw [List.map_append] at e ⊢
  obtain ⟨e1, e2⟩ := List.append_inj' e rfl
  have hns : ∀ y ∈ ks, y ≠ x := fun y hy => ltK_ne ((List.pairwise_append.1 h.1).2.2 y hy x (by simp))
  congr 1
  · rw [e1]
    refine List.map_congr_left fun y hy => ?_
    rw [cnt_app, cnt_diff (hns y hy).symm]; rfl
  · simp at e2 ⊢
    rw [e2, cnt_app, cnt_same]
    simp
end Go.Proofs.YtclcgakfmcofaaaGreatDoor
