/- Texts that belong together. -/
import Derived.Test.YtmbkcmfcdjccoaaDoorMP52
import Derived.Lib.TrimUEq
import Derived.Lib.TrimAscii
import Derived.Lib.MapLaws
import Derived.Lib.ValidLaws
/- Classes of letters: pure. What an expression of one class comes to, and what it means. -/
namespace Go.Proofs.YtmbkcmfcdjccoaaDoor
open Go.RowKit Go.Maps

theorem charR_drop {s : ByteArray} {i : Nat} (h : i < s.size) : charR s i = Lib.decodeL (s.data.toList.drop i) := by
  have hx : (s.extract i s.size).data.toList = s.data.toList.drop i := by
    rw [Lib.extract_data, List.take_of_length_le (by rw [List.length_drop, ← Lib.size_eq]; omega)]
  have hsz : (s.extract i s.size).size ≠ 0 := by rw [Lib.size_eq, hx, List.length_drop, ← Lib.size_eq]; omega
  unfold charR Lib.decodeGoB
  rw [if_neg hsz, ← hx]
  rfl
/-- A small letter. -/
def ltr (b : UInt8) : Prop := 97 ≤ b.toNat ∧ b.toNat ≤ 122
theorem ltr.ne {b c : UInt8} (h : ltr b) (hc : c.toNat < 97 ∨ 122 < c.toNat) : (some b == some c) = false := by
  have : b ≠ c := fun e => by subst e; unfold ltr at h; omega
  simpa using this
section
variable {s : ByteArray} {i : Nat} {b c : UInt8} {t : List UInt8}
theorem at_drop (h : s.data.toList.drop i = b :: t) : s.data.toList[i]? = some b ∧ i < s.size ∧ s.data.toList.drop (i + 1) = t := by
  have h1 : (s.data.toList.drop i)[0]? = some b := by rw [h]; rfl
  rw [List.getElem?_drop, Nat.add_zero] at h1
  refine ⟨h1, ?_, ?_⟩
  · rw [Lib.size_eq]
    exact (List.getElem?_eq_some_iff.1 h1).1
  · rw [← List.drop_drop, h]
    rfl
theorem sees_at (h : s.data.toList.drop i = b :: t) (c : UInt8) : seesB s i c = (some b == some c) := by
  unfold seesB
  rw [(at_drop h).1]
theorem sees_ltr (h : s.data.toList.drop i = b :: t) (hb : ltr b) (hc : c.toNat < 97 ∨ 122 < c.toNat) : seesB s i c = false := by
  rw [sees_at h]
  exact hb.ne hc
theorem char_ltr (h : s.data.toList.drop i = b :: t) (hb : ltr b) : charR s i = (b.toNat, 1) := by
  rw [charR_drop (at_drop h).2.1, h]
  exact Lib.decodeL_ascii b t (by unfold ltr at hb; omega)
def spB (b : UInt8) : Sp := ((b.toNat : Int), (b.toNat : Int))
theorem memR_ltr (first : Bool) (h : s.data.toList.drop i = b :: t) (hb : ltr b) : memR s i first = .yes ([spB b], true) (i + 1) := by
  unfold memR
  have h2 := (at_drop h).2.1
  rw [if_neg (by omega), if_neg (by rw [sees_ltr h hb (by decide)]; simp), if_neg (by rw [sees_ltr h hb (by decide)]; simp), char_ltr h hb]
  rfl
theorem pieceR_ltr (first : Bool) (h : s.data.toList.drop i = b :: t) (hb : ltr b) (ht : t.head? ≠ some 45) : pieceR s i first = .yes [spB b] (i + 1) := by
  have h45 : seesB s (i + 1) 45 = false := by
    cases t with
    | nil =>
      have h9 := (at_drop h).2.2
      unfold seesB
      have : s.data.toList[i + 1]? = none := by
        rw [← Nat.add_zero (i + 1), ← List.getElem?_drop, h9]
        rfl
      rw [this]
      rfl
    | cons c u =>
      rw [sees_at (at_drop h).2.2]
      simpa using ht
  unfold pieceR
  rw [memR_ltr first h hb]
  simp only [h45, true_or, or_true, if_true]
theorem pieceR_rng (first : Bool) {d : UInt8} {u : List UInt8} (h : s.data.toList.drop i = b :: 45 :: d :: u) (hb : ltr b) (hd : ltr d) (hbd : b.toNat ≤ d.toNat) : pieceR s i first = .yes [((b.toNat : Int), (d.toNat : Int))] (i + 3) := by
  have h1 := (at_drop h).2.2
  have h2 := (at_drop h1).2.2
  have h45 : seesB s (i + 1) 45 = true := by rw [sees_at h1]; rfl
  have h93 : seesB s (i + 1 + 1) 93 = false := sees_ltr h2 hd (by decide)
  have h46 : seesB s (i + 1 + 1) 45 = false := sees_ltr h2 hd (by decide)
  unfold pieceR
  rw [memR_ltr first h hb]
  have hm := memR_ltr false h2 hd
  have hlt : ¬ ((d.toNat : Int) < (b.toNat : Int)) := by omega
  simp [h45, h93, h46, spB, hlt, hm]
end
theorem pieces_ltrs {s : ByteArray} {rest : List UInt8} (hr : rest.head? ≠ some 45) : ∀ (L : List UInt8) (n i : Nat) (first : Bool) (acc : List Sp), s.data.toList.drop i = L ++ rest → (∀ b ∈ L, ltr b) → piecesR s (n + L.length) i first acc = piecesR s n (i + L.length) (first && L.isEmpty) (acc ++ L.map spB)
  | [], n, i, first, acc, _, _ => by simp
  | b :: t, n, i, first, acc, h, hl => by
    have hb := hl b (List.mem_cons_self ..)
    have h' : s.data.toList.drop i = b :: (t ++ rest) := h
    have ht : (t ++ rest).head? ≠ some 45 := by
      cases t with
      | nil => exact hr
      | cons c u =>
        have hc := hl c (by simp)
        intro e
        have e : some c = some 45 := e
        injection e with e
        subst e
        exact absurd hc.1 (by decide)
    rw [show n + (b :: t).length = (n + t.length) + 1 by simp [Nat.add_assoc], piecesR, if_neg (by rw [sees_ltr h' hb (by decide)]; simp), pieceR_ltr first h' hb ht]
    show piecesR s (n + t.length) (i + 1) false (acc ++ [spB b]) = _
    rw [pieces_ltrs hr t n (i + 1) false (acc ++ [spB b]) (at_drop h').2.2 (fun c hc => hl c (by simp [hc]))]
    simp [Nat.add_assoc, Nat.add_comm 1]
def tailB : Option (UInt8 × UInt8) → List UInt8
  | none => []
  | some (lo, hi) => [lo, 45, hi]
def tailA : Option (UInt8 × UInt8) → List Sp
  | none => []
  | some (lo, hi) => [((lo.toNat : Int), (hi.toNat : Int))]
def RgOk : Option (UInt8 × UInt8) → Prop
  | none => True
  | some (lo, hi) => ltr lo ∧ ltr hi ∧ lo.toNat ≤ hi.toNat
def clsA (L : List UInt8) (R : Option (UInt8 × UInt8)) : List Sp := L.map spB ++ tailA R
theorem class_pieces {s : ByteArray} {L : List UInt8} {R : Option (UInt8 × UInt8)} (hL : ∀ b ∈ L, ltr b) (hne : L ≠ []) (hR : RgOk R) (n i : Nat) (h : s.data.toList.drop i = L ++ (tailB R ++ [93])) : piecesR s (n + 2 + L.length) i true [] = .yes (clsA L R) (i + L.length + (tailB R).length + 1) := by
  have he : L.isEmpty = false := by cases L with
    | nil => exact absurd rfl hne
    | cons a t => rfl
  have hd2 : s.data.toList.drop (i + L.length) = tailB R ++ [93] := by
    rw [← List.drop_drop, h]
    simp
  cases R with
  | none =>
    rw [pieces_ltrs (rest := [93]) (by decide) L (n + 2) i true [] h hL, he]
    have hd3 : s.data.toList.drop (i + L.length) = 93 :: [] := hd2
    rw [piecesR, if_pos ⟨by simp, by rw [sees_at hd3]; rfl⟩]
    simp [clsA, tailA, tailB]
  | some p =>
    obtain ⟨lo, hi⟩ := p
    obtain ⟨h1, h2, h3⟩ := hR
    have hd3 : s.data.toList.drop (i + L.length) = lo :: 45 :: hi :: [93] := hd2
    rw [pieces_ltrs (rest := tailB (some (lo, hi)) ++ [93]) (by
      intro e
      have e : some lo = some 45 := e
      injection e with e
      subst e
      exact absurd h1.1 (by decide)) L (n + 2) i true [] h hL, he]
    rw [piecesR, if_neg (by rw [sees_ltr hd3 h1 (by decide)]; simp), pieceR_rng _ hd3 h1 h2 h3]
    have hd4 := (at_drop (at_drop (at_drop hd3).2.2).2.2).2.2
    show piecesR s (n + 1) (i + L.length + 3) false _ = _
    have hd5 : s.data.toList.drop (i + L.length + 3) = 93 :: [] := hd4
    rw [piecesR, if_pos ⟨rfl, by rw [sees_at hd5]; rfl⟩]
    simp [clsA, tailA, tailB]
/-- An expression of one class. -/
def clsB (neg : Bool) (L : List UInt8) (R : Option (UInt8 × UInt8)) : List UInt8 := 91 :: ((if neg = true then [94] else []) ++ (L ++ (tailB R ++ [93])))
theorem class_read {s : ByteArray} {L : List UInt8} {R : Option (UInt8 × UInt8)} {neg : Bool} (hL : ∀ b ∈ L, ltr b) (hne : L ≠ []) (hR : RgOk R) (h : s.data.toList = clsB neg L R) : classR s 1 = .yes (clsA L R, neg) s.size := by
  have hsz : s.size = s.data.toList.length := Lib.size_eq s
  have h0 : s.data.toList.drop 0 = 91 :: ((if neg = true then [94] else []) ++ (L ++ (tailB R ++ [93]))) := h
  have h1 := (at_drop h0).2.2
  have hfl : s.size = 1 + (if neg = true then [(94 : UInt8)] else []).length + L.length + (tailB R).length + 1 := by
    rw [hsz, h]
    simp [clsB]
    omega
  unfold classR
  cases neg with
  | true =>
    have h2 : s.data.toList.drop 1 = 94 :: (L ++ (tailB R ++ [93])) := h1
    rw [if_pos (by rw [sees_at h2]; rfl)]
    have h3 := (at_drop h2).2.2
    simp at hfl
    rw [show s.size + 1 = (s.size - L.length - 1) + 2 + L.length by omega, class_pieces hL hne hR _ _ h3]
    show Rd.yes (clsA L R, true) _ = _
    rw [hfl]
  | false =>
    have h2 : s.data.toList.drop 1 = L ++ (tailB R ++ [93]) := h1
    simp at hfl
    cases L with
    | nil => exact absurd rfl hne
    | cons b t =>
      have h2' : s.data.toList.drop 1 = b :: (t ++ (tailB R ++ [93])) := h2
      rw [if_neg (by rw [sees_ltr h2' (hL b (by simp)) (by decide)]; simp)]
      rw [show s.size + 1 = (s.size - (b :: t).length - 1) + 2 + (b :: t).length by simp at hfl ⊢; omega, class_pieces hL hne hR _ _ h2]
      show Rd.yes (clsA (b :: t) R, false) _ = _
      rw [hfl]
theorem sees_end (s : ByteArray) (c : UInt8) : seesB s s.size c = false := by
  unfold seesB
  rw [List.getElem?_eq_none (by rw [Lib.size_eq]; exact Nat.le_refl _)]
  rfl
theorem class_comp {s : ByteArray} {L : List UInt8} {R : Option (UInt8 × UInt8)} {neg : Bool} (hL : ∀ b ∈ L, ltr b) (hne : L ≠ []) (hR : RgOk R) (hs : s.size ≤ 256) (h : s.data.toList = clsB neg L R) : compR s = .ok (.row [.take (clsA L R) neg]) 0 := by
  have h0 : s.data.toList.drop 0 = 91 :: ((if neg = true then [94] else []) ++ (L ++ (tailB R ++ [93]))) := h
  have hpos := (at_drop h0).2.1
  have e := sees_end s
  have f : ∀ c, seesB s 0 c = (some (91 : UInt8) == some c) := sees_at h0
  obtain ⟨k, hk⟩ : ∃ k, 5 * s.size + 2 = k + 6 := ⟨5 * s.size - 4, by omega⟩
  have ht : thingR s (k + 3) 0 0 = .yes (.take (clsA L R) neg) s.size 0 := by
    rw [thing_one, if_neg (by rw [f]; decide), if_pos (by rw [f]; decide), class_read hL hne hR h]
  have hp : partR s (k + 4) 0 0 = .yes (.take (clsA L R) neg) s.size 0 := by
    rw [part_one, if_neg (by rw [f]; decide), if_neg (by rw [f]; decide), ht]
    have hrep : repR s (.take (clsA L R) neg) s.size = .yes (.take (clsA L R) neg) s.size := repR_none _ (e _) (e _) (e _) (e _)
    show (match repR s (.take (clsA L R) neg) s.size with | .no q => Pt.no q | .yes y q => .yes y q 0) = _
    rw [hrep]
  have hr : rowR s (k + 5) 0 0 [] = .yes (.row [.take (clsA L R) neg]) s.size 0 := by
    rw [row_one, if_neg (by rw [f, f]; exact fun h9 => h9.elim (fun h => by omega) (fun h => h.elim (fun h => absurd h (by decide)) (fun h => absurd h (by decide)))), hp]
    show rowR s (k + 4) s.size 0 ([] ++ [.take (clsA L R) neg]) = _
    rw [row_one, if_pos (Or.inl (Nat.le_refl _))]
    rfl
  have he : readS s = .yes (.row [.take (clsA L R) neg]) s.size 0 := by
    unfold readS
    rw [hk, either_one, hr]
    show (if seesB s s.size 124 = false then _ else _) = _
    rw [if_pos (e _)]
  unfold compR
  rw [if_neg (by omega), he]
  show (if s.size < s.size then _ else _) = _
  rw [if_neg (Nat.lt_irrefl _), if_neg (by simp [sizeN, sizesN, capN]; omega)]
theorem class_prog (A : List Sp) (neg : Bool) : progR (.row [.take A neg]) = [.take A neg, .yes] := by simp [progR, emitN, emitsN]
end Go.Proofs.YtmbkcmfcdjccoaaDoor

/- Texts as characters: pure. -/
namespace Go.Proofs.YtmbkcmfcdjccoaaDoor
open Go.Lib

/-- What is decoded speaks of the bytes of its width alone. -/
theorem dec_cut {n b0 b1 b2 b3 m d1 d2 d3 : Nat} (hv : ¬ ((decodeN n b0 b1 b2 b3).1 = 65533 ∧ (decodeN n b0 b1 b2 b3).2 = 1)) (hm : (decodeN n b0 b1 b2 b3).2 ≤ m)
    (h1 : 1 < (decodeN n b0 b1 b2 b3).2 → d1 = b1) (h2 : 2 < (decodeN n b0 b1 b2 b3).2 → d2 = b2) (h3 : 3 < (decodeN n b0 b1 b2 b3).2 → d3 = b3) :
    decodeN m b0 d1 d2 d3 = decodeN n b0 b1 b2 b3 := by
  rcases decodeN_shape n b0 b1 b2 b3 with ⟨c, e⟩ | ⟨c1, c2, c3, cv, e⟩ | ⟨c1, c2, c3, c4, cv, cs, e⟩ | ⟨c1, c2, c3, c4, c5, cv, cw, e⟩ | e
  · rw [e]
    unfold decodeN
    rw [if_pos c]
  · rw [e] at hm h1 ⊢
    have e1 := h1 (by show _ < _; dsimp only; omega)
    subst e1
    dsimp only at hm
    unfold decodeN
    rw [if_neg (by omega), if_pos ⟨c1, by omega, c3⟩, if_pos (by omega)]
  · rw [e] at hm h1 h2 ⊢
    have e1 := h1 (by show _ < _; dsimp only; omega)
    have e2 := h2 (by show _ < _; dsimp only; omega)
    subst e1 e2
    dsimp only at hm
    unfold decodeN
    rw [if_neg (by omega), if_neg (by omega), if_pos ⟨c1, ⟨by omega, c3⟩, by omega, c4⟩, if_pos (by omega)]
  · rw [e] at hm h1 h2 h3 ⊢
    have e1 := h1 (by show _ < _; dsimp only; omega)
    have e2 := h2 (by show _ < _; dsimp only; omega)
    have e3 := h3 (by show _ < _; dsimp only; omega)
    subst e1 e2 e3
    dsimp only at hm
    unfold decodeN
    rw [if_neg (by omega), if_neg (by omega), if_neg (by omega), if_pos ⟨c1, ⟨by omega, c3⟩, ⟨by omega, c4⟩, by omega, c5⟩, if_pos (by omega)]
  · rw [e] at hv
    exact absurd ⟨rfl, rfl⟩ hv

/-- The bytes of a character. -/
def chB (c : Nat) : List UInt8 := encodeRune (c : Int)
/-- A character of UTF-8. -/
structure ChF (c : Nat) : Prop where
  dec : ∀ r, decodeL (chB c ++ r) = (c, (chB c).length)
  pos : 0 < (chB c).length
  low : (∃ b : UInt8, chB c = [b] ∧ b.toNat = c ∧ c < 128) ∨ ∀ b ∈ chB c, 128 ≤ b.toNat
theorem getD_app_lt {l r : List UInt8} {i : Nat} (h : i < l.length) : (l ++ r).getD i 0 = l.getD i 0 := by
  simp [List.getD_eq_getElem?_getD, List.getElem?_append_left h]
theorem ch_of {l : List UInt8} (hne : l ≠ []) (hv : ¬ ((decodeL l).1 = 65533 ∧ (decodeL l).2 = 1)) : ChF (decodeL l).1 ∧ l = chB (decodeL l).1 ++ l.drop (decodeL l).2 ∧ (chB (decodeL l).1).length = (decodeL l).2 := by
  have he : chB (decodeL l).1 = l.take (decodeL l).2 := encode_decode l hne hv
  have hle := decodeL_le l hne
  have hw := decodeL_width l
  have hlen : (chB (decodeL l).1).length = (decodeL l).2 := by rw [he, List.length_take]; omega
  refine ⟨⟨fun r => ?_, by omega, ?_⟩, by rw [he, List.take_append_drop], hlen⟩
  · have hg : ∀ i, i < (decodeL l).2 → (chB (decodeL l).1 ++ r).getD i 0 = l.getD i 0 := fun i hi => by
      rw [getD_app_lt (by omega), he, getD_takeU _ _ _ hi]
    rw [hlen]
    have hd : decodeL (chB (decodeL l).1 ++ r) = decodeL l := by
      have h0 := hg 0 (by omega)
      have h1 := hg 1
      have h2 := hg 2
      have h3 := hg 3
      have hm : (decodeL l).2 ≤ (chB (decodeL l).1 ++ r).length := by rw [List.length_append]; omega
      generalize chB (decodeL l).1 ++ r = q at *
      rw [decodeL_N q, decodeL_N l, h0]
      rw [decodeL_N l] at hv hm h1 h2 h3
      exact dec_cut hv hm (fun h => by rw [h1 h]) (fun h => by rw [h2 h]) (fun h => by rw [h3 h])
    rw [hd]
  · rw [he]
    have k : ∀ i, l.getD i 0 = (l[i]?).getD 0 := fun i => List.getD_eq_getElem?_getD ..
    have hmem : ∀ b ∈ l.take (decodeL l).2, ∃ i, i < (decodeL l).2 ∧ l.getD i 0 = b := fun b hb => by
      obtain ⟨i, hi⟩ := List.mem_iff_getElem?.1 hb
      have hlt : i < (l.take (decodeL l).2).length := (List.getElem?_eq_some_iff.1 hi).1
      rw [List.length_take] at hlt
      refine ⟨i, by omega, ?_⟩
      rw [← getD_takeU l (decodeL l).2 i (by omega), List.getD_eq_getElem?_getD, hi]
      rfl
    have hhead : ∀ t, l.take 1 = t → t = [l.getD 0 0] := fun t ht => by
      cases l with
      | nil => exact absurd rfl hne
      | cons b t => rw [← ht]; rfl
    rw [decodeL_N] at hv hmem ⊢
    rcases decodeN_shape l.length (l.getD 0 0).toNat (l.getD 1 0).toNat (l.getD 2 0).toNat (l.getD 3 0).toNat with ⟨c, e⟩ | ⟨c1, c2, c3, cv, e⟩ | ⟨c1, c2, c3, c4, cv, cs, e⟩ | ⟨c1, c2, c3, c4, c5, cv, cw, e⟩ | e
    · rw [e]
      exact Or.inl ⟨l.getD 0 0, hhead _ rfl, rfl, c⟩
    · right
      intro b hb
      obtain ⟨i, hi, rfl⟩ := hmem b hb
      rw [e] at hi
      rcases (by omega : i = 0 ∨ i = 1) with rfl | rfl
      all_goals omega
    · right
      intro b hb
      obtain ⟨i, hi, rfl⟩ := hmem b hb
      rw [e] at hi
      rcases (by omega : i = 0 ∨ i = 1 ∨ i = 2) with rfl | rfl | rfl
      all_goals omega
    · right
      intro b hb
      obtain ⟨i, hi, rfl⟩ := hmem b hb
      rw [e] at hi
      rcases (by omega : i = 0 ∨ i = 1 ∨ i = 2 ∨ i = 3) with rfl | rfl | rfl | rfl
      all_goals omega
    · rw [e] at hv
      exact absurd ⟨rfl, rfl⟩ hv
/-- The bytes of characters. -/
def txB (cs : List Nat) : List UInt8 := cs.flatMap chB
theorem chars_of : ∀ (n : Nat) (l : List UInt8), l.length ≤ n → validD l = true → ∃ cs, l = txB cs ∧ ∀ c ∈ cs, ChF c
  | n, [], _, _ => ⟨[], rfl, fun c h => by cases h⟩
  | 0, b :: t, h, _ => by simp at h
  | n + 1, b :: t, h, hv => by
    rw [validD_step _ (by simp)] at hv
    by_cases hb : (decodeL (b :: t)).1 = 65533 ∧ (decodeL (b :: t)).2 = 1
    · rw [if_pos hb] at hv
      cases hv
    · rw [if_neg hb] at hv
      obtain ⟨h1, h2, h3⟩ := ch_of (l := b :: t) (by simp) hb
      have hp := h1.pos
      obtain ⟨cs, h4, h5⟩ := chars_of n ((b :: t).drop (decodeL (b :: t)).2) (by rw [List.length_drop]; omega) hv
      refine ⟨(decodeL (b :: t)).1 :: cs, ?_, ?_⟩
      · rw [h4] at h2
        exact h2
      · intro c hc
        rcases List.mem_cons.1 hc with rfl | hc
        · exact h1
        · exact h5 c hc
theorem txB_inj : ∀ {ds cs : List Nat}, (∀ d ∈ ds, ChF d) → (∀ c ∈ cs, ChF c) → txB ds = txB cs → ds = cs
  | [], [], _, _, _ => rfl
  | [], c :: u, _, hc, h => by
    have h1 := (hc c (by simp)).pos
    have h2 := congrArg List.length h
    have h2 : 0 = (chB c ++ txB u).length := h2
    rw [List.length_append] at h2
    omega
  | d :: t, [], hd, _, h => by
    have h1 := (hd d (by simp)).pos
    have h2 := congrArg List.length h
    have h2 : (chB d ++ txB t).length = 0 := h2
    rw [List.length_append] at h2
    omega
  | d :: t, c :: u, hd, hc, h => by
    have h : chB d ++ txB t = chB c ++ txB u := h
    have h1 := (hd d (by simp)).dec (txB t)
    have h2 := (hc c (by simp)).dec (txB u)
    rw [h, h2] at h1
    injection h1 with h1 h3
    subst h1
    rw [txB_inj (fun x hx => hd x (by simp [hx])) (fun x hx => hc x (by simp [hx])) (List.append_cancel_left h)]
end Go.Proofs.YtmbkcmfcdjccoaaDoor
