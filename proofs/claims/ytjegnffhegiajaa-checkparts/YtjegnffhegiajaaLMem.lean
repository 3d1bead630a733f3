/- Ops in memory: what the cells of a slice of ops hold. -/
import Derived.Test.YtjegnffhegiajaaRows
import Derived.Test.YtjegnffhegiajaaLText
import Derived.WalkKit
import Derived.WalkSmall
import Derived.Below
import Derived.OwnWalk
import Derived.Maps.AppendAt
namespace Go.Proofs.Ytjegnffhegiajaa
open Go.RowKit
set_option linter.unusedVariables false
set_option maxRecDepth 100000

namespace Fo
def drop : Nat → Fo → Fo
  | 0, f => f
  | _ + 1, .nil => .nil
  | i + 1, .cons _ _ _ r => drop i r
def take : Nat → Fo → Fo
  | 0, _ => .nil
  | _ + 1, .nil => .nil
  | i + 1, .cons k n b r => .cons k n b (take i r)
def sz : Fo → Nat
  | .nil => 0
  | .cons _ _ b r => b.sz + r.sz + 1
theorem drop_lt : ∀ (i : Nat) (f : Fo), i < f.len → ∃ k n b r, f.drop i = .cons k n b r ∧ f.drop (i + 1) = r ∧ f.take (i + 1) = (f.take i).app (.cons k n b .nil)
  | i, .nil, h => by simp [len] at h
  | 0, .cons k n b r, _ => ⟨k, n, b, r, rfl, by simp [drop], by simp [take, app]⟩
  | i + 1, .cons k n b r, h => by
    obtain ⟨k', n', b', r', h1, h2, h3⟩ := drop_lt i r (by simp [len] at h; omega)
    exact ⟨k', n', b', r', h1, by rw [← h2]; rfl, by rw [take, h3]; rfl⟩
theorem drop_all : ∀ (i : Nat) (f : Fo), f.len ≤ i → f.drop i = .nil
  | 0, .nil, _ => rfl
  | 0, .cons k n b r, h => by simp [len] at h
  | _ + 1, .nil, _ => rfl
  | i + 1, .cons k n b r, h => drop_all i r (by simp [len] at h; omega)
theorem take_all : ∀ (i : Nat) (f : Fo), f.len ≤ i → f.take i = f
  | 0, .nil, _ => rfl
  | 0, .cons k n b r, h => by simp [len] at h
  | _ + 1, .nil, _ => rfl
  | i + 1, .cons k n b r, h => by rw [take, take_all i r (by simp [len] at h; omega)]
theorem take_len : ∀ (i : Nat) (f : Fo), i ≤ f.len → (f.take i).len = i
  | 0, f, _ => by cases f <;> rfl
  | i + 1, .nil, h => by simp [len] at h
  | i + 1, .cons k n b r, h => by simp [take, len, take_len i r (by simp [len] at h; omega)]
theorem sz_drop : ∀ (i : Nat) (f : Fo), (f.drop i).sz ≤ f.sz
  | 0, f => Nat.le_refl _
  | _ + 1, .nil => Nat.le_refl _
  | i + 1, .cons k n b r => by have := sz_drop i r; simp only [drop, sz]; omega
/-- A block of one of them is smaller than all. -/
theorem sz_blk {i : Nat} {f b r : Fo} {k n : Int} (h : f.drop i = .cons k n b r) : b.sz < f.sz := by
  have := sz_drop i f
  rw [h] at this
  simp only [sz] at this
  omega
theorem take_drop : ∀ (i : Nat) (f : Fo), (f.take i).app (f.drop i) = f
  | 0, f => rfl
  | _ + 1, .nil => rfl
  | i + 1, .cons k n b r => by simp [take, drop, app, take_drop i r]
end Fo
deriving instance DecidableEq for Fo

/-- From (g, o) on the ops of f lie, one behind the other; Q holds of each block of memory that blocks of them lie in. -/
def FoAt (Q : World → Nat → Nat → Prop) (w : World) : Fo → Nat → Nat → Prop
  | .nil, _, _ => True
  | .cons k n b r, g, o => w.cell? ⟨g, o, none⟩ = some (.int .i64 k) ∧ w.cell? ⟨g, o + 1, none⟩ = some (.int .i64 n) ∧
      (∃ a cap, w.cell? ⟨g, o + 2, none⟩ = some (.slice a b.len cap) ∧ (b = .nil ∨ ∃ g' o', a = some ⟨g', o', none⟩ ∧ Q w g' o' ∧ FoAt Q w b g' o')) ∧ FoAt Q w r g (o + 3)
/-- The slice v holds the ops f. -/
def FS (Q : World → Nat → Nat → Prop) (w : World) (v : Value) (f : Fo) : Prop :=
  ∃ a cap, v = .slice a f.len cap ∧ (f = .nil ∨ ∃ g o, a = some ⟨g, o, none⟩ ∧ Q w g o ∧ FoAt Q w f g o)

theorem FoAt.move {Q Q' : World → Nat → Nat → Prop} {w w' : World} {f : Fo} : ∀ {g o : Nat}, FoAt Q w f g o → (∀ b o, Q w b o → w'.heap[b]? = w.heap[b]? ∧ Q' w' b o) → w'.heap[g]? = w.heap[g]? → FoAt Q' w' f g o := by
  induction f with
  | nil => intro g o _ _ _; trivial
  | cons k n b r ihb ihr =>
    intro g o h hQ hg
    obtain ⟨h0, h1, ⟨a, cap, h2, h3⟩, h4⟩ := h
    have e := hg
    refine ⟨(World.cell?_of_block (a := ⟨g, o, none⟩) e).trans h0, (World.cell?_of_block (a := ⟨g, o + 1, none⟩) e).trans h1, ⟨a, cap, (World.cell?_of_block (a := ⟨g, o + 2, none⟩) e).trans h2, ?_⟩, ihr h4 hQ hg⟩
    rcases h3 with h3 | ⟨g', o', ha, hq, h3⟩
    · exact .inl h3
    · exact .inr ⟨g', o', ha, (hQ g' o' hq).2, ihb h3 hQ (hQ g' o' hq).1⟩
theorem FS.move {Q Q' : World → Nat → Nat → Prop} {w w' : World} {v : Value} {f : Fo} (h : FS Q w v f) (hQ : ∀ b o, Q w b o → w'.heap[b]? = w.heap[b]? ∧ Q' w' b o) : FS Q' w' v f := by
  obtain ⟨a, cap, rfl, h⟩ := h
  refine ⟨a, cap, rfl, ?_⟩
  rcases h with h | ⟨g, o, ha, hq, h⟩
  · exact .inl h
  · exact .inr ⟨g, o, ha, (hQ g o hq).2, h.move hQ (hQ g o hq).1⟩
theorem FoAt.drop {Q : World → Nat → Nat → Prop} {w : World} : ∀ (i : Nat) (f : Fo) {g o : Nat}, FoAt Q w f g o → FoAt Q w (f.drop i) g (o + i * 3)
  | 0, f, g, o, h => by simpa [Fo.drop] using h
  | i + 1, .nil, g, o, h => trivial
  | i + 1, .cons k n b r, g, o, h => by
    have := FoAt.drop i r h.2.2.2
    rw [show o + (i + 1) * 3 = o + 3 + i * 3 by omega]
    exact this
/-- The op at place i. -/
theorem FoAt.at {Q : World → Nat → Nat → Prop} {w : World} {f : Fo} {g o i : Nat} (h : FoAt Q w f g o) (hi : i < f.len) : ∃ k n b r v, f.drop i = .cons k n b r ∧ f.drop (i + 1) = r ∧ f.take (i + 1) = (f.take i).app (.cons k n b .nil) ∧
    w.cell? ⟨g, o + i * 3, none⟩ = some (.int .i64 k) ∧ w.cell? ⟨g, o + i * 3 + 1, none⟩ = some (.int .i64 n) ∧ w.cell? ⟨g, o + i * 3 + 2, none⟩ = some v ∧ FS Q w v b := by
  obtain ⟨k, n, b, r, h1, h2, h3⟩ := Fo.drop_lt i f hi
  have hd := FoAt.drop i f h
  rw [h1] at hd
  obtain ⟨c0, c1, ⟨a, cap, c2, hb⟩, _⟩ := hd
  exact ⟨k, n, b, r, _, h1, h2, h3, c0, c1, c2, a, cap, rfl, hb⟩

/-- Memory that came in. -/
def QA (w : World) (b _ : Nat) : Prop := b < w.heap.size
/-- Memory of the call's own, from lo on, made for ops. -/
def QO (lo : Nat) (w : World) (b o : Nat) : Prop := (o = 0 ∧ lo ≤ b) ∧ ∃ cur, w.heap[b]? = some (.cells cur 38 (0, 0))
theorem QO.lt {lo : Nat} {w : World} {b o : Nat} (h : QO lo w b o) : b < w.heap.size := by
  obtain ⟨_, cur, h⟩ := h
  exact (Array.getElem?_eq_some_iff.1 h).1
/-- .. but not in the memory of v. -/
def QX (lo : Nat) (v : Value) (w : World) (b o : Nat) : Prop := QO lo w b o ∧ some b ≠ v.ownBlock
theorem FS.below {w w' : World} {v : Value} {f : Fo} (h : FS QA w v f) (hb : Below w.heap.size w w') : FS QA w' v f :=
  h.move fun b o hq => ⟨hb.block b hq, Nat.lt_of_lt_of_le hq hb.size⟩
theorem FS.arg {lo : Nat} {w : World} {v : Value} {f : Fo} (h : FS (QO lo) w v f) : FS QA w v f := h.move fun b o hq => ⟨rfl, hq.lt⟩
theorem FS.nil {Q : World → Nat → Nat → Prop} (w : World) : FS Q w (.slice none 0 0) .nil := ⟨none, 0, rfl, .inl rfl⟩
theorem FS.shape {Q : World → Nat → Nat → Prop} {w : World} {v : Value} {f : Fo} (h : FS Q w v f) : (∃ a cap, v = .slice a 0 cap ∧ f = .nil) ∨ ∃ g o cap, v = .slice (some ⟨g, o, none⟩) f.len cap ∧ Q w g o ∧ FoAt Q w f g o := by
  obtain ⟨a, cap, rfl, h⟩ := h
  rcases h with rfl | ⟨g, o, rfl, hq, h⟩
  · exact .inl ⟨a, cap, rfl, rfl⟩
  · exact .inr ⟨g, o, cap, rfl, hq, h⟩
theorem FS.val {Q : World → Nat → Nat → Prop} {w : World} {v : Value} {f : Fo} (h : FS Q w v f) : ∃ a cap, v = .slice a f.len cap := by
  obtain ⟨a, cap, rfl, _⟩ := h
  exact ⟨a, cap, rfl⟩
theorem fs_drewN {Q : World → Nat → Nat → Prop} {w : World} {v : Value} {f : Fo} (h : FS Q w v f) (q : Nat) (hQ : ∀ b o, Q w b o → Q (w.drewN q) b o) : FS Q (w.drewN q) v f := h.move fun b o hq => ⟨rfl, hQ b o hq⟩
theorem FS.drewN {w : World} {v : Value} {f : Fo} (h : FS QA w v f) (q : Nat) : FS QA (w.drewN q) v f := h.move fun b o hq => ⟨rfl, hq⟩

/-! ### Ops of the call's own -/
abbrev Ro := Int × Int × Value
abbrev flatO (l : List Ro) : List Value := l.flatMap fun x => [.int .i64 x.1, .int .i64 x.2.1, x.2.2]
theorem flatO_len (l : List Ro) : (flatO l).length = l.length * 3 := by
  induction l with
  | nil => rfl
  | cons a l ih => simp [flatO] at ih ⊢; omega
theorem flatO_app (l m : List Ro) : flatO (l ++ m) = flatO l ++ flatO m := by simp [flatO]
theorem flatO_get : ∀ (l : List Ro) (i : Nat) (x : Ro), l[i]? = some x → (flatO l)[i * 3]? = some (.int .i64 x.1) ∧ (flatO l)[i * 3 + 1]? = some (.int .i64 x.2.1) ∧ (flatO l)[i * 3 + 2]? = some x.2.2
  | [], i, x, h => by simp at h
  | a :: l, 0, x, h => by simp at h; subst h; simp [flatO]
  | a :: l, i + 1, x, h => by
    simp at h
    have := flatO_get l i x h
    simp only [flatO, List.flatMap_cons] at this ⊢
    have e : (i + 1) * 3 = i * 3 + 1 + 1 + 1 := by omega
    rw [e]
    simpa using this
/-- The rows l are the ops f. -/
def Rows' (Q : World → Nat → Nat → Prop) (w : World) : List Ro → Fo → Prop
  | [], .nil => True
  | x :: l, .cons k n b r => x.1 = k ∧ x.2.1 = n ∧ FS Q w x.2.2 b ∧ Rows' Q w l r
  | _, _ => False
theorem Rows'.len {Q : World → Nat → Nat → Prop} {w : World} : ∀ {l : List Ro} {f : Fo}, Rows' Q w l f → l.length = f.len
  | [], .nil, _ => rfl
  | x :: l, .cons k n b r, h => by simp [Fo.len, Rows'.len h.2.2.2]
  | [], .cons _ _ _ _, h => by simp [Rows'] at h
  | _ :: _, .nil, h => by simp [Rows'] at h
theorem Rows'.move {Q Q' : World → Nat → Nat → Prop} {w w' : World} (hQ : ∀ b o, Q w b o → w'.heap[b]? = w.heap[b]? ∧ Q' w' b o) : ∀ {l : List Ro} {f : Fo}, Rows' Q w l f → Rows' Q' w' l f
  | [], .nil, _ => trivial
  | x :: l, .cons k n b r, h => ⟨h.1, h.2.1, h.2.2.1.move hQ, Rows'.move hQ h.2.2.2⟩
  | [], .cons _ _ _ _, h => by simp [Rows'] at h
  | _ :: _, .nil, h => by simp [Rows'] at h
theorem Rows'.snoc {Q : World → Nat → Nat → Prop} {w : World} {k n : Int} {b : Fo} {v : Value} (hv : FS Q w v b) : ∀ {l : List Ro} {f : Fo}, Rows' Q w l f → Rows' Q w (l ++ [(k, n, v)]) (f.app (.cons k n b .nil))
  | [], .nil, _ => ⟨rfl, rfl, hv, trivial⟩
  | x :: l, .cons k n b r, h => ⟨h.1, h.2.1, h.2.2.1, Rows'.snoc hv h.2.2.2⟩
  | [], .cons _ _ _ _, h => by simp [Rows'] at h
  | _ :: _, .nil, h => by simp [Rows'] at h
theorem foAt_rows {Q : World → Nat → Nat → Prop} {w : World} {g : Nat} : ∀ {l : List Ro} {f : Fo} {o : Nat}, Rows' Q w l f → (∀ i x, l[i]? = some x → w.cell? ⟨g, o + i * 3, none⟩ = some (.int .i64 x.1) ∧ w.cell? ⟨g, o + i * 3 + 1, none⟩ = some (.int .i64 x.2.1) ∧ w.cell? ⟨g, o + i * 3 + 2, none⟩ = some x.2.2) → FoAt Q w f g o
  | [], .nil, o, _, _ => trivial
  | x :: l, .cons k n b r, o, h, hc => by
    obtain ⟨h1, h2, h3, h4⟩ := h
    have c := hc 0 x rfl
    simp only [Nat.zero_mul, Nat.add_zero] at c
    obtain ⟨a, cap, hv, hb⟩ := h3
    refine ⟨by rw [← h1]; exact c.1, by rw [← h2]; exact c.2.1, ⟨a, cap, by rw [← hv]; exact c.2.2, hb⟩, foAt_rows h4 fun i y hy => ?_⟩
    have := hc (i + 1) y hy
    rw [show o + 3 + i * 3 = o + (i + 1) * 3 by omega]
    exact this
  | [], .cons _ _ _ _, o, h, _ => by simp [Rows'] at h
  | _ :: _, .nil, o, h, _ => by simp [Rows'] at h
/-- v owns the ops f: its own row in a block from lo on, their blocks in other blocks from lo on. -/
def OwnF (lo : Nat) (w : World) (v : Value) (f : Fo) : Prop :=
  ∃ l : List Ro, w.ownsRow lo 38 3 v l.length (flatO l) ∧ Rows' (QX lo v) w l f
theorem OwnF.nil (lo : Nat) (w : World) : OwnF lo w (.slice none 0 0) .nil := ⟨[], World.ownsRow_nil _ _ _ _, trivial⟩
theorem OwnF.fs {lo : Nat} {w : World} {v : Value} {f : Fo} (h : OwnF lo w v f) : FS (QO lo) w v f := by
  obtain ⟨l, ho, hr⟩ := h
  have hr' : Rows' (QO lo) w l f := hr.move fun b o hq => ⟨rfl, hq.1⟩
  rcases ho.2 with ⟨rfl, h0⟩ | ⟨g, cap, cur, rfl, hlo, hb, _, _, _, ht⟩
  · have : f = .nil := Fo.len_nil (by rw [← hr.len, h0])
    subst this
    exact FS.nil w
  · refine ⟨_, cap, by rw [hr.len], .inr ⟨g, 0, rfl, ⟨⟨rfl, hlo⟩, cur, hb⟩, foAt_rows hr' fun i x hx => ?_⟩⟩
    have hi : i < l.length := (List.getElem?_eq_some_iff.1 hx).1
    obtain ⟨h0, h1, h2⟩ := flatO_get l i x hx
    rw [← ht, List.getElem?_take_of_lt (by omega)] at h0 h1 h2
    refine ⟨?_, ?_, ?_⟩
    · simp only [World.cell?, hb, Nat.zero_add]; simpa using h0
    · simp only [World.cell?, hb, Nat.zero_add]; simpa using h1
    · simp only [World.cell?, hb, Nat.zero_add]; simpa using h2
theorem OwnF.len {lo : Nat} {w : World} {v : Value} {f : Fo} (h : OwnF lo w v f) : ∃ a cap, v = .slice a f.len cap := h.fs.val
/-- What is owned stays where blocks from lo on stay. -/
theorem OwnF.keep {lo : Nat} {w w' : World} {v : Value} {f : Fo} (h : OwnF lo w v f) (hk : ∀ k, lo ≤ k → k < w.heap.size → w'.heap[k]? = w.heap[k]?) : OwnF lo w' v f := by
  obtain ⟨l, ho, hr⟩ := h
  refine ⟨l, ⟨ho.1, ?_⟩, hr.move fun b o hq => ?_⟩
  · rcases ho.2 with h1 | ⟨g, cap, cur, h1, h2, h3, h4⟩
    · exact .inl h1
    · exact .inr ⟨g, cap, cur, h1, h2, by rw [hk g h2 (Array.getElem?_eq_some_iff.1 h3).1]; exact h3, h4⟩
  · obtain ⟨⟨h1, cur, h2⟩, h3⟩ := hq
    have e := hk b h1.2 (Array.getElem?_eq_some_iff.1 h2).1
    exact ⟨e, ⟨h1, cur, by rw [e]; exact h2⟩, h3⟩
theorem FS.keep {lo : Nat} {w w' : World} {v : Value} {f : Fo} (h : FS (QO lo) w v f) (hk : ∀ k, lo ≤ k → k < w.heap.size → w'.heap[k]? = w.heap[k]?) : FS (QO lo) w' v f :=
  h.move fun b o hq => by
    have hl := hq.lt
    obtain ⟨h1, cur, h2⟩ := hq
    have e := hk b h1.2 hl
    exact ⟨e, h1, cur, by rw [e]; exact h2⟩
theorem FS.lower {lo lo' : Nat} {w : World} {v : Value} {f : Fo} (h : FS (QO lo) w v f) (hl : lo' ≤ lo) : FS (QO lo') w v f := h.move fun b o hq => ⟨rfl, ⟨hq.1.1, Nat.le_trans hl hq.1.2⟩, hq.2⟩
theorem OwnF.lower {lo lo' : Nat} {w : World} {v : Value} {f : Fo} (h : OwnF lo w v f) (hl : lo' ≤ lo) : OwnF lo' w v f := by
  obtain ⟨l, ho, hr⟩ := h
  refine ⟨l, ⟨ho.1, ?_⟩, hr.move fun b o hq => ⟨rfl, ⟨⟨hq.1.1.1, Nat.le_trans hl hq.1.1.2⟩, hq.1.2⟩, hq.2⟩⟩
  rcases ho.2 with h1 | ⟨g, cap, cur, h1, h2, h3⟩
  · exact .inl h1
  · exact .inr ⟨g, cap, cur, h1, Nat.le_trans hl h2, h3⟩
/-- One more op: its block lies in other memory. -/
theorem OwnF.snoc {lo : Nat} {w w3 : World} {v v3 sv : Value} {f b : Fo} {l : List Ro} {k n : Int} (ho : w.ownsRow lo 38 3 v l.length (flatO l)) (hr : Rows' (QX lo v) w l f)
    (hv : FS (QX lo v) w sv b) (ho3 : w3.ownsRow lo 38 3 v3 (l.length + 1) (flatO l ++ [.int .i64 k, .int .i64 n, sv])) (hg : w.grownBy w3 v.ownBlock) (hat : v3.ownBlock = v.ownBlock ∨ v3.ownBlock = some w.heap.size) :
    OwnF lo w3 v3 (f.app (.cons k n b .nil)) := by
  have hmv : ∀ c o, QX lo v w c o → w3.heap[c]? = w.heap[c]? ∧ QX lo v3 w3 c o := by
    intro c o hq
    have hl := hq.1.lt
    obtain ⟨⟨h1, cur, h2⟩, h3⟩ := hq
    have e := hg.block c hl h3
    refine ⟨e, ⟨h1, cur, by rw [e]; exact h2⟩, ?_⟩
    rcases hat with h | h
    · rw [h]; exact h3
    · rw [h]; intro hc; injection hc with hc; omega
  refine ⟨l ++ [(k, n, sv)], ?_, (hr.snoc hv).move hmv⟩
  rw [List.length_append, flatO_app]
  exact ho3
end Go.Proofs.Ytjegnffhegiajaa
