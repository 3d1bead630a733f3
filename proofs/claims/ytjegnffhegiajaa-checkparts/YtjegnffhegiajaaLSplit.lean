/- A text's words: by bytes, and by runes (strings.FieldsFunc): the same. No program in this text. -/
import Derived.Lib.FieldsP
import Derived.Lib.SpaceUEq
import Derived.Lib.Join
import Derived.Test.YtjegnffhegiajaaBaL
namespace Go.Proofs.Ytjegnffhegiajaa
open Go.Lib
set_option linter.unusedVariables false
set_option maxRecDepth 100000

abbrev blankB (c : UInt8) : Bool := c == 32 || c == 10
def blankR (r : Nat) : Bool := r == 32 || r == 10
/-- The words of l, behind what stands of the first one. -/
def splitG : List UInt8 → List UInt8 → List (List UInt8)
  | acc, [] => if acc = [] then [] else [acc]
  | acc, c :: r => if blankB c then (if acc = [] then splitG [] r else acc :: splitG [] r) else splitG (acc ++ [c]) r
def splitB (s : ByteArray) : List ByteArray := (splitG [] (L s)).map fun l => ⟨l.toArray⟩

theorem splitG_solid : ∀ (t acc r : List UInt8), (∀ c ∈ t, blankB c = false) → splitG acc (t ++ r) = splitG (acc ++ t) r := by
  intro t
  induction t with
  | nil => intro acc r _; simp
  | cons c t ih =>
    intro acc r h
    rw [List.cons_append, splitG, if_neg (by rw [h c (by simp)]; simp), ih _ _ (fun x hx => h x (by simp [hx]))]
    simp

/-- What a decoder reads at a place: a byte below 128 is itself; else neither a blank, nor over one. -/
theorem decodeN_solid (n b0 b1 b2 b3 : Nat) : (b0 < 128 ∧ decodeN n b0 b1 b2 b3 = (b0, 1)) ∨ (128 ≤ b0 ∧ 128 ≤ (decodeN n b0 b1 b2 b3).1 ∧
    ((decodeN n b0 b1 b2 b3).2 = 1 ∨ ((decodeN n b0 b1 b2 b3).2 = 2 ∧ 128 ≤ b1) ∨ ((decodeN n b0 b1 b2 b3).2 = 3 ∧ 128 ≤ b1 ∧ 128 ≤ b2) ∨ ((decodeN n b0 b1 b2 b3).2 = 4 ∧ 128 ≤ b1 ∧ 128 ≤ b2 ∧ 128 ≤ b3))) := by
  by_cases h : b0 < 128
  · left; exact ⟨h, by unfold decodeN; rw [if_pos h]⟩
  · right
    refine ⟨by omega, ?_⟩
    unfold decodeN
    rw [if_neg h]
    repeat' split
    all_goals (refine ⟨by show 128 ≤ _; dsimp only; omega, ?_⟩; first | exact .inl rfl | exact .inr (.inl ⟨rfl, by omega⟩) | exact .inr (.inr (.inl ⟨rfl, by omega, by omega⟩)) | exact .inr (.inr (.inr ⟨rfl, by omega, by omega, by omega⟩)))

theorem get!_L (s : ByteArray) (i : Nat) (h : i < s.size) : (L s)[i]? = some (s.get! i) := by
  have : s.get! i = s.data[i]! := rfl
  rw [this, getElem!_pos s.data i (by simpa using h)]
  simp [L, h]

/-- The bytes that a rune takes. -/
theorem rune_bytes (s : ByteArray) (pos : Nat) (h : pos < s.size) :
    (blankR (Utf8.decode s pos).1 = true ∧ (Utf8.decode s pos).2 = 1 ∧ blankB (s.get! pos) = true) ∨
    (blankR (Utf8.decode s pos).1 = false ∧ ∀ c ∈ ((L s).drop pos).take (Utf8.decode s pos).2, blankB c = false) := by
  rw [decode_at]
  have hb : ∀ j, pos + j < s.size → (L s)[pos + j]? = some (s.get! (pos + j)) := fun j hj => get!_L s _ hj
  have hn := decodeN_le_n' (s.size - pos) (s.get! pos).toNat (s.get! (pos + 1)).toNat (s.get! (pos + 2)).toNat (s.get! (pos + 3)).toNat (by omega)
  have hbig : ∀ c : UInt8, 128 ≤ c.toNat → blankB c = false := by
    intro c hc
    simp only [blankB, Bool.or_eq_false_iff, beq_eq_false_iff_ne]
    constructor <;> (intro e; subst e; simp at hc)
  rcases decodeN_solid (s.size - pos) (s.get! pos).toNat (s.get! (pos + 1)).toNat (s.get! (pos + 2)).toNat (s.get! (pos + 3)).toNat with ⟨h1, h2⟩ | ⟨h1, h2, h3⟩
  · rw [h2]
    simp only
    have hx := hb 0 (by omega)
    simp only [Nat.add_zero] at hx
    have ht : ((L s).drop pos).take 1 = [s.get! pos] := by
      have : ((L s).drop pos)[0]? = some (s.get! pos) := by rw [List.getElem?_drop]; simpa using hx
      cases hd : (L s).drop pos with
      | nil => rw [hd] at this; simp at this
      | cons a t => rw [hd] at this; simp at this; simp [this]
    have hiff : blankR (s.get! pos).toNat = blankB (s.get! pos) := by
      generalize s.get! pos = c
      have : ∀ c : Fin 256, blankR (UInt8.ofNat c.val).toNat = blankB (UInt8.ofNat c.val) := by decide +kernel
      have := this ⟨c.toNat, c.toNat_lt⟩
      simpa using this
    cases hk : blankB (s.get! pos) with
    | true => left; exact ⟨by rw [hiff, hk], trivial, by first | exact hk | rfl | trivial⟩
    | false => right; refine ⟨by rw [hiff, hk], ?_⟩; rw [ht]; intro c hc; simp at hc; subst hc; exact hk
  · right
    refine ⟨by unfold blankR; simp; omega, ?_⟩
    intro c hc
    obtain ⟨j, hj⟩ := List.getElem?_of_mem hc
    have hjk : j < (decodeN (s.size - pos) (s.get! pos).toNat (s.get! (pos + 1)).toNat (s.get! (pos + 2)).toNat (s.get! (pos + 3)).toNat).2 := by
      have := (List.getElem?_eq_some_iff.1 hj).1
      simp at this
      omega
    rw [List.getElem?_take_of_lt hjk, List.getElem?_drop, hb j (by omega)] at hj
    simp at hj
    subst hj
    apply hbig
    have : j = 0 ∨ j = 1 ∨ j = 2 ∨ j = 3 := by omega
    rcases this with rfl | rfl | rfl | rfl
    · exact h1
    all_goals omega

theorem ext_piece (s : ByteArray) (a b : Nat) : s.extract a b = ⟨(pieceU (L s) a b).toArray⟩ := by
  apply ba_ext
  show L _ = _
  rw [L_ext]
  rfl

/-- FieldsFunc's spans, from a place on, are the words. -/
theorem spans_split (s : ByteArray) : ∀ (f pos : Nat) (st : Option Nat) (acc : List (Nat × Nat)), s.size ≤ pos + f → (∀ a, st = some a → a < pos) → pos ≤ s.size →
    (closeSpans s (spansFromP blankR s f pos st acc)).map (fun x => pieceU (L s) x.1 x.2) = acc.map (fun x => pieceU (L s) x.1 x.2) ++ splitG (openPiece (L s) st pos) ((L s).drop pos) := by
  intro f
  have hend : ∀ pos (st : Option Nat) (acc : List (Nat × Nat)), pos = s.size → (∀ a, st = some a → a < pos) → (closeSpans s (acc, st)).map (fun x => pieceU (L s) x.1 x.2) = acc.map (fun x => pieceU (L s) x.1 x.2) ++ splitG (openPiece (L s) st pos) ((L s).drop pos) := by
    intro pos st acc hp hs
    subst hp
    rw [List.drop_of_length_le (by rw [L_len]; exact Nat.le_refl _)]
    cases st with
    | none => simp [closeSpans, openPiece, splitG]
    | some a =>
      have := pieceU_ne (L s) a s.size (hs a rfl) (by rw [L_len]; exact Nat.le_refl _)
      simp [closeSpans, openPiece, splitG, this]
  induction f with
  | zero => intro pos st acc h1 h2 h3; exact hend pos st acc (by omega) h2
  | succ f ih =>
    intro pos st acc h1 h2 h3
    unfold spansFromP
    by_cases hlt : pos < s.size
    · rw [if_pos hlt]
      have hw := width_pos s pos
      have hwn : pos + (Utf8.decode s pos).2 ≤ s.size := by
        have := decodeN_le_n' (s.size - pos) (s.get! pos).toNat (s.get! (pos + 1)).toNat (s.get! (pos + 2)).toNat (s.get! (pos + 3)).toNat (by omega)
        rw [← decode_at] at this
        omega
      have hdr : (L s).drop pos = ((L s).drop pos).take (Utf8.decode s pos).2 ++ (L s).drop (pos + (Utf8.decode s pos).2) := by
        rw [← List.drop_drop, List.take_append_drop]
      rcases rune_bytes s pos hlt with ⟨hb1, hb2, hb3⟩ | ⟨hb1, hb2⟩
      · rw [if_pos hb1, hb2]
        have hx := get!_L s pos hlt
        have hc : (L s).drop pos = s.get! pos :: (L s).drop (pos + 1) := by
          rw [List.drop_eq_getElem_cons (by rw [L_len]; exact hlt)]
          congr 1
          have := (List.getElem?_eq_some_iff.1 hx).2
          exact this
        cases st with
        | none =>
          rw [ih (pos + 1) none acc (by omega) (fun a h => by cases h) (by omega), hc, splitG, if_pos hb3]
          rfl
        | some a =>
          have hne := pieceU_ne (L s) a pos (h2 a rfl) (by rw [L_len]; omega)
          rw [ih (pos + 1) none _ (by omega) (fun a h => by cases h) (by omega), hc, splitG, if_pos hb3]
          rw [show openPiece (L s) (some a) pos = pieceU (L s) a pos from rfl, if_neg hne]
          simp [openPiece]
      · rw [if_neg (by rw [hb1]; simp)]
        rw [hdr, splitG_solid _ _ _ hb2]
        cases st with
        | none =>
          rw [ih _ (some pos) acc (by omega) (fun a h => by cases h; omega) hwn]
          simp [openPiece, pieceU]
        | some a =>
          have ha := h2 a rfl
          rw [ih _ (some a) acc (by omega) (fun b h => by cases h; omega) hwn]
          simp only [openPiece]
          rw [pieceU_grow _ _ _ _ (by omega)]
    · rw [if_neg hlt]; exact hend pos st acc (by omega) h2
theorem fields_split (s : ByteArray) : goFieldsP blankR s = splitB s := by
  unfold goFieldsP splitB spansOfP
  have h := spans_split s s.size 0 none [] (by omega) (fun a h => by cases h) (Nat.zero_le _)
  simp only [List.map_nil, List.nil_append, openPiece, List.drop_zero] at h
  rw [← h, List.map_map]
  apply List.map_congr_left
  intro x hx
  exact ext_piece s x.1 x.2

/-! ### Words, joined by blanks, are those words -/
def Solid (l : List UInt8) : Prop := l ≠ [] ∧ ∀ c ∈ l, blankB c = false
theorem splitG_words : ∀ (l : List UInt8) (acc : List UInt8), (∀ c ∈ acc, blankB c = false) → ∀ x ∈ splitG acc l, Solid x := by
  intro l
  induction l with
  | nil =>
    intro acc ha x hx
    simp only [splitG] at hx
    by_cases h : acc = []
    · simp [h] at hx
    · simp [h] at hx; subst hx; exact ⟨h, ha⟩
  | cons c r ih =>
    intro acc ha x hx
    rw [splitG] at hx
    cases hc : blankB c with
    | true =>
      rw [if_pos hc] at hx
      by_cases h : acc = []
      · rw [if_pos h] at hx; exact ih [] (fun c hc => by cases hc) x hx
      · rw [if_neg h] at hx
        rcases List.mem_cons.1 hx with rfl | hx
        · exact ⟨h, ha⟩
        · exact ih [] (fun c hc => by cases hc) x hx
    | false =>
      rw [if_neg (by rw [hc]; simp)] at hx
      exact ih (acc ++ [c]) (fun d hd => by
        rcases List.mem_append.1 hd with h | h
        · exact ha d h
        · simp at h; subst h; exact hc) x hx
theorem splitB_words (s : ByteArray) : ∀ x ∈ splitB s, Solid (L x) := by
  intro x hx
  obtain ⟨l, hl, rfl⟩ := List.mem_map.1 hx
  exact splitG_words _ [] (fun c hc => by cases hc) l hl
theorem splitG_len : ∀ (l acc : List UInt8), (splitG acc l).length ≤ l.length + (if acc = [] then 0 else 1) := by
  intro l
  induction l with
  | nil => intro acc; simp only [splitG]; split <;> simp_all
  | cons c r ih =>
    intro acc
    rw [splitG]
    have h1 := ih []
    have h2 := ih (acc ++ [c])
    simp at h1 h2
    split
    · split
      · rw [List.length_cons]; omega
      · rw [List.length_cons, List.length_cons]; omega
    · rw [List.length_cons]; split <;> omega
/-- Words behind one another, each with a blank ahead. -/
theorem split_tail : ∀ (ws : List (List UInt8)) (acc r : List UInt8), (∀ x ∈ ws, Solid x) → acc ≠ [] →
    splitG acc (joinTail [32] ws ++ r) = if ws = [] then splitG acc r else acc :: (ws.dropLast ++ splitG (ws.getLast?.getD []) r) := by
  intro ws
  induction ws with
  | nil => intro acc r _ _; simp [joinTail]
  | cons x ws ih =>
    intro acc r h hacc
    have hx := h x (by simp)
    have e : joinTail [32] (x :: ws) ++ r = 32 :: (x ++ (joinTail [32] ws ++ r)) := by simp [joinTail]
    rw [e, splitG, if_pos (by rfl), if_neg hacc, splitG_solid _ _ _ hx.2, List.nil_append, ih x r (fun y hy => h y (by simp [hy])) hx.1]
    cases ws with
    | nil => simp
    | cons y ws => simp [List.getLast?_cons_cons]
theorem split_blank_end (acc : List UInt8) (t : List UInt8) (h : ∀ c ∈ t, blankB c = true) : splitG acc t = if acc = [] then [] else [acc] := by
  induction t generalizing acc with
  | nil => rfl
  | cons c t ih =>
    rw [splitG, if_pos (h c (by simp))]
    have := ih [] (fun d hd => h d (by simp [hd]))
    simp at this
    rw [this]
theorem split_join (ws : List (List UInt8)) (t : List UInt8) (h : ∀ x ∈ ws, Solid x) (ht : ∀ c ∈ t, blankB c = true) : splitG [] (join ws [32] ++ t) = ws := by
  cases ws with
  | nil => rw [join_nil, List.nil_append, split_blank_end _ _ ht]; simp
  | cons x ws =>
    have hx := h x (by simp)
    rw [join_cons, List.append_assoc, splitG_solid _ _ _ hx.2, List.nil_append, split_tail ws x t (fun y hy => h y (by simp [hy])) hx.1]
    by_cases hw : ws = []
    · subst hw; rw [if_pos rfl, split_blank_end _ _ ht, if_neg hx.1]
    · rw [if_neg hw, split_blank_end _ _ ht]
      have hl : ws.getLast?.getD [] = ws.getLast hw := by rw [List.getLast?_eq_some_getLast hw]; rfl
      rw [hl, if_neg (h _ (by simp [List.getLast_mem hw])).1, List.dropLast_concat_getLast]
theorem split_lead (c : UInt8) (l : List UInt8) (h : blankB c = true) : splitG [] (c :: l) = splitG [] l := by
  rw [splitG, if_pos h, if_pos rfl]
end Go.Proofs.Ytjegnffhegiajaa
