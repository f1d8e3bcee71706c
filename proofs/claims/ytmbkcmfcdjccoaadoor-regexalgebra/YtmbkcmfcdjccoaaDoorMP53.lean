/- Texts that belong together. -/
import Derived.Test.YtmbkcmfcdjccoaaDoorMP52
import Derived.Test.YtmbkcmfcdjccoaaDoorMB2
import Derived.Lib.TrimUEq
import Derived.Lib.TrimAscii
/- Classes of letters: pure. What an expression of one class comes to, and what it means. -/
namespace Go.Proofs.YtmbkcmfcdjccoaaDoor
open Go.RowKit Go.Maps

theorem charR_drop {s : ByteArray} {i : Nat} (h : i < s.size) : charR s i = Lib.decodeL (s.data.toList.drop i) := by
  have hx : (s.extract i s.size).data.toList = s.data.toList.drop i := by
    rw [Lib.extract_data, List.take_of_length_le (by rw [List.length_drop, ← Lib.size_eq]; omega)]
  have hsz : (s.extract i s.size).size ≠ 0 := by rw [Lib.size_eq, hx, List.length_drop, ← Lib.size_eq]; omega
  unfold charR Lib.decodeGoB
  rw [if_neg hsz, ← hx]
  rfl
/-- A small letter. -/
def ltr (b : UInt8) : Prop := 97 ≤ b.toNat ∧ b.toNat ≤ 122
theorem ltr.ne {b c : UInt8} (h : ltr b) (hc : c.toNat < 97 ∨ 122 < c.toNat) : (some b == some c) = false := by
  have : b ≠ c := fun e => by subst e; unfold ltr at h; omega
  simpa using this
section
variable {s : ByteArray} {i : Nat} {b c : UInt8} {t : List UInt8}
theorem at_drop (h : s.data.toList.drop i = b :: t) : s.data.toList[i]? = some b ∧ i < s.size ∧ s.data.toList.drop (i + 1) = t := by
  have h1 : (s.data.toList.drop i)[0]? = some b := by rw [h]; rfl
  rw [List.getElem?_drop, Nat.add_zero] at h1
  refine ⟨h1, ?_, ?_⟩
  · rw [Lib.size_eq]
    exact (List.getElem?_eq_some_iff.1 h1).1
  · rw [← List.drop_drop, h]
    rfl
theorem sees_at (h : s.data.toList.drop i = b :: t) (c : UInt8) : seesB s i c = (some b == some c) := by
  unfold seesB
  rw [(at_drop h).1]
theorem sees_ltr (h : s.data.toList.drop i = b :: t) (hb : ltr b) (hc : c.toNat < 97 ∨ 122 < c.toNat) : seesB s i c = false := by
  rw [sees_at h]
  exact hb.ne hc
theorem char_ltr (h : s.data.toList.drop i = b :: t) (hb : ltr b) : charR s i = (b.toNat, 1) := by
  rw [charR_drop (at_drop h).2.1, h]
  exact Lib.decodeL_ascii b t (by unfold ltr at hb; omega)
def spB (b : UInt8) : Sp := ((b.toNat : Int), (b.toNat : Int))
theorem memR_ltr (first : Bool) (h : s.data.toList.drop i = b :: t) (hb : ltr b) : memR s i first = .yes ([spB b], true) (i + 1) := by
  unfold memR
  have h2 := (at_drop h).2.1
  rw [if_neg (by omega), if_neg (by rw [sees_ltr h hb (by decide)]; simp), if_neg (by rw [sees_ltr h hb (by decide)]; simp), char_ltr h hb]
  rfl
theorem pieceR_ltr (first : Bool) (h : s.data.toList.drop i = b :: t) (hb : ltr b) (ht : t.head? ≠ some 45) : pieceR s i first = .yes [spB b] (i + 1) := by
  have h45 : seesB s (i + 1) 45 = false := by
    cases t with
    | nil =>
      have h9 := (at_drop h).2.2
      unfold seesB
      have : s.data.toList[i + 1]? = none := by
        rw [← Nat.add_zero (i + 1), ← List.getElem?_drop, h9]
        rfl
      rw [this]
      rfl
    | cons c u =>
      rw [sees_at (at_drop h).2.2]
      simpa using ht
  unfold pieceR
  rw [memR_ltr first h hb]
  simp only [h45, true_or, or_true, if_true]
theorem pieceR_rng (first : Bool) {d : UInt8} {u : List UInt8} (h : s.data.toList.drop i = b :: 45 :: d :: u) (hb : ltr b) (hd : ltr d) (hbd : b.toNat ≤ d.toNat) : pieceR s i first = .yes [((b.toNat : Int), (d.toNat : Int))] (i + 3) := by
  have h1 := (at_drop h).2.2
  have h2 := (at_drop h1).2.2
  have h45 : seesB s (i + 1) 45 = true := by rw [sees_at h1]; rfl
  have h93 : seesB s (i + 1 + 1) 93 = false := sees_ltr h2 hd (by decide)
  have h46 : seesB s (i + 1 + 1) 45 = false := sees_ltr h2 hd (by decide)
  unfold pieceR
  rw [memR_ltr first h hb]
  have hm := memR_ltr false h2 hd
  have hlt : ¬ ((d.toNat : Int) < (b.toNat : Int)) := by omega
  simp [h45, h93, h46, spB, hlt, hm]
end
theorem pieces_ltrs {s : ByteArray} {rest : List UInt8} (hr : rest.head? ≠ some 45) : ∀ (L : List UInt8) (n i : Nat) (first : Bool) (acc : List Sp), s.data.toList.drop i = L ++ rest → (∀ b ∈ L, ltr b) → piecesR s (n + L.length) i first acc = piecesR s n (i + L.length) (first && L.isEmpty) (acc ++ L.map spB)
  | [], n, i, first, acc, _, _ => by simp
  | b :: t, n, i, first, acc, h, hl => by
    have hb := hl b (List.mem_cons_self ..)
    have h' : s.data.toList.drop i = b :: (t ++ rest) := h
    have ht : (t ++ rest).head? ≠ some 45 := by
      cases t with
      | nil => exact hr
      | cons c u =>
        have hc := hl c (by simp)
        intro e
        have e : some c = some 45 := e
        injection e with e
        subst e
        exact absurd hc.1 (by decide)
    rw [show n + (b :: t).length = (n + t.length) + 1 by simp [Nat.add_assoc], piecesR, if_neg (by rw [sees_ltr h' hb (by decide)]; simp), pieceR_ltr first h' hb ht]
    show piecesR s (n + t.length) (i + 1) false (acc ++ [spB b]) = _
    rw [pieces_ltrs hr t n (i + 1) false (acc ++ [spB b]) (at_drop h').2.2 (fun c hc => hl c (by simp [hc]))]
    simp [Nat.add_assoc, Nat.add_comm 1]
def tailB : Option (UInt8 × UInt8) → List UInt8
  | none => []
  | some (lo, hi) => [lo, 45, hi]
def tailA : Option (UInt8 × UInt8) → List Sp
  | none => []
  | some (lo, hi) => [((lo.toNat : Int), (hi.toNat : Int))]
def RgOk : Option (UInt8 × UInt8) → Prop
  | none => True
  | some (lo, hi) => ltr lo ∧ ltr hi ∧ lo.toNat ≤ hi.toNat
def clsA (L : List UInt8) (R : Option (UInt8 × UInt8)) : List Sp := L.map spB ++ tailA R
theorem class_pieces {s : ByteArray} {L : List UInt8} {R : Option (UInt8 × UInt8)} (hL : ∀ b ∈ L, ltr b) (hne : L ≠ []) (hR : RgOk R) (n i : Nat) (h : s.data.toList.drop i = L ++ (tailB R ++ [93])) : piecesR s (n + 2 + L.length) i true [] = .yes (clsA L R) (i + L.length + (tailB R).length + 1) := by
  have he : L.isEmpty = false := by cases L with
    | nil => exact absurd rfl hne
    | cons a t => rfl
  have hd2 : s.data.toList.drop (i + L.length) = tailB R ++ [93] := by
    rw [← List.drop_drop, h]
    simp
  cases R with
  | none =>
    rw [pieces_ltrs (rest := [93]) (by decide) L (n + 2) i true [] h hL, he]
    have hd3 : s.data.toList.drop (i + L.length) = 93 :: [] := hd2
    rw [piecesR, if_pos ⟨by simp, by rw [sees_at hd3]; rfl⟩]
    simp [clsA, tailA, tailB]
  | some p =>
    obtain ⟨lo, hi⟩ := p
    obtain ⟨h1, h2, h3⟩ := hR
    have hd3 : s.data.toList.drop (i + L.length) = lo :: 45 :: hi :: [93] := hd2
    rw [pieces_ltrs (rest := tailB (some (lo, hi)) ++ [93]) (by
      intro e
      have e : some lo = some 45 := e
      injection e with e
      subst e
      exact absurd h1.1 (by decide)) L (n + 2) i true [] h hL, he]
    rw [piecesR, if_neg (by rw [sees_ltr hd3 h1 (by decide)]; simp), pieceR_rng _ hd3 h1 h2 h3]
    have hd4 := (at_drop (at_drop (at_drop hd3).2.2).2.2).2.2
    show piecesR s (n + 1) (i + L.length + 3) false _ = _
    have hd5 : s.data.toList.drop (i + L.length + 3) = 93 :: [] := hd4
    rw [piecesR, if_pos ⟨rfl, by rw [sees_at hd5]; rfl⟩]
    simp [clsA, tailA, tailB]
/-- An expression of one class. -/
def clsB (neg : Bool) (L : List UInt8) (R : Option (UInt8 × UInt8)) : List UInt8 := 91 :: ((if neg = true then [94] else []) ++ (L ++ (tailB R ++ [93])))
theorem class_read {s : ByteArray} {L : List UInt8} {R : Option (UInt8 × UInt8)} {neg : Bool} (hL : ∀ b ∈ L, ltr b) (hne : L ≠ []) (hR : RgOk R) (h : s.data.toList = clsB neg L R) : classR s 1 = .yes (clsA L R, neg) s.size := by
  have hsz : s.size = s.data.toList.length := Lib.size_eq s
  have h0 : s.data.toList.drop 0 = 91 :: ((if neg = true then [94] else []) ++ (L ++ (tailB R ++ [93]))) := h
  have h1 := (at_drop h0).2.2
  have hfl : s.size = 1 + (if neg = true then [(94 : UInt8)] else []).length + L.length + (tailB R).length + 1 := by
    rw [hsz, h]
    simp [clsB]
    omega
  unfold classR
  cases neg with
  | true =>
    have h2 : s.data.toList.drop 1 = 94 :: (L ++ (tailB R ++ [93])) := h1
    rw [if_pos (by rw [sees_at h2]; rfl)]
    have h3 := (at_drop h2).2.2
    simp at hfl
    rw [show s.size + 1 = (s.size - L.length - 1) + 2 + L.length by omega, class_pieces hL hne hR _ _ h3]
    show Rd.yes (clsA L R, true) _ = _
    rw [hfl]
  | false =>
    have h2 : s.data.toList.drop 1 = L ++ (tailB R ++ [93]) := h1
    simp at hfl
    cases L with
    | nil => exact absurd rfl hne
    | cons b t =>
      have h2' : s.data.toList.drop 1 = b :: (t ++ (tailB R ++ [93])) := h2
      rw [if_neg (by rw [sees_ltr h2' (hL b (by simp)) (by decide)]; simp)]
      rw [show s.size + 1 = (s.size - (b :: t).length - 1) + 2 + (b :: t).length by simp at hfl ⊢; omega, class_pieces hL hne hR _ _ h2]
      show Rd.yes (clsA (b :: t) R, false) _ = _
      rw [hfl]
theorem sees_end (s : ByteArray) (c : UInt8) : seesB s s.size c = false := by
  unfold seesB
  rw [List.getElem?_eq_none (by rw [Lib.size_eq]; exact Nat.le_refl _)]
  rfl
theorem class_comp {s : ByteArray} {L : List UInt8} {R : Option (UInt8 × UInt8)} {neg : Bool} (hL : ∀ b ∈ L, ltr b) (hne : L ≠ []) (hR : RgOk R) (hs : s.size ≤ 256) (h : s.data.toList = clsB neg L R) : compR s = .ok (.row [.take (clsA L R) neg]) 0 := by
  have h0 : s.data.toList.drop 0 = 91 :: ((if neg = true then [94] else []) ++ (L ++ (tailB R ++ [93]))) := h
  have hpos := (at_drop h0).2.1
  have e := sees_end s
  have f : ∀ c, seesB s 0 c = (some (91 : UInt8) == some c) := sees_at h0
  obtain ⟨k, hk⟩ : ∃ k, 5 * s.size + 2 = k + 6 := ⟨5 * s.size - 4, by omega⟩
  have ht : thingR s (k + 3) 0 0 = .yes (.take (clsA L R) neg) s.size 0 := by
    rw [thing_one, if_neg (by rw [f]; decide), if_pos (by rw [f]; decide), class_read hL hne hR h]
  have hp : partR s (k + 4) 0 0 = .yes (.take (clsA L R) neg) s.size 0 := by
    rw [part_one, if_neg (by rw [f]; decide), if_neg (by rw [f]; decide), ht]
    have hrep : repR s (.take (clsA L R) neg) s.size = .yes (.take (clsA L R) neg) s.size := repR_none _ (e _) (e _) (e _) (e _)
    show (match repR s (.take (clsA L R) neg) s.size with | .no q => Pt.no q | .yes y q => .yes y q 0) = _
    rw [hrep]
  have hr : rowR s (k + 5) 0 0 [] = .yes (.row [.take (clsA L R) neg]) s.size 0 := by
    rw [row_one, if_neg (by rw [f, f]; exact fun h9 => h9.elim (fun h => by omega) (fun h => h.elim (fun h => absurd h (by decide)) (fun h => absurd h (by decide)))), hp]
    show rowR s (k + 4) s.size 0 ([] ++ [.take (clsA L R) neg]) = _
    rw [row_one, if_pos (Or.inl (Nat.le_refl _))]
    rfl
  have he : readS s = .yes (.row [.take (clsA L R) neg]) s.size 0 := by
    unfold readS
    rw [hk, either_one, hr]
    show (if seesB s s.size 124 = false then _ else _) = _
    rw [if_pos (e _)]
  unfold compR
  rw [if_neg (by omega), he]
  show (if s.size < s.size then _ else _) = _
  rw [if_neg (Nat.lt_irrefl _), if_neg (by simp [sizeN, sizesN, capN]; omega)]
theorem class_prog (A : List Sp) (neg : Bool) : progR (.row [.take A neg]) = [.take A neg, .yes] := by simp [progR, emitN, emitsN]
end Go.Proofs.YtmbkcmfcdjccoaaDoor

/- What a class means: pure. -/
namespace Go.Proofs.YtmbkcmfcdjccoaaDoor
open Go.RowKit Go.Maps

theorem run_class (A : List Sp) (neg : Bool) (text : ByteArray) (nt : Bool) : (runF [.take A neg, .yes] text nt).isSome = (decide (0 < text.size) && (decide (text.size ≤ (charR text 0).2) && (memS A (charR text 0).1 != neg))) := by
  have h0 : folF [.take A neg, .yes] text.size 0 nt (3 * 2 + 3) none ⟨List.replicate 2 0, [(0, [])], [], none⟩ = ⟨[1, 0], [], [(0, [])], none⟩ := by
    simp [folF, List.replicate]
  unfold runF
  rw [show ([Stp.take A neg, Stp.yes] : List Stp).length = 2 from rfl, h0]
  show (loopF _ text nt (text.size + 1) 0 [(0, [])] ⟨[1, 0], [], [(0, [])], none⟩).fnd.isSome = _
  rw [loopF]
  by_cases hz : 0 < text.size
  · obtain ⟨k1, k2, k3⟩ := charR_ok hz
    rw [if_pos ⟨hz, by simp⟩, Nat.zero_add]
    generalize (charR text 0).1 = c at *
    generalize (charR text 0).2 = w at *
    have hw : ¬ w = 0 := by omega
    have hsw : sweepF [.take A neg, .yes] text.size w nt c [(0, [])] ⟨[1, 0], [], [], none⟩ = if (memS A c != neg) = true then (if w < text.size then ⟨[1, w + 1], [], [], none⟩ else ⟨[1, w + 1], [], [], some []⟩) else ⟨[1, 0], [], [], none⟩ := by
      have hf : folF [.take A neg, .yes] text.size w nt (3 * 2 + 3) none ⟨[1, 0], [(1, [])], [], none⟩ = if w < text.size then ⟨[1, w + 1], [], [], none⟩ else ⟨[1, w + 1], [], [], some []⟩ := by
        simp [folF]
      rw [sweepF]
      show (if takesS [.take A neg, .yes] 0 c = true then sweepF _ _ _ _ _ [] _ else sweepF _ _ _ _ _ [] _) = _
      rw [show takesS [.take A neg, .yes] 0 c = (memS A c != neg) from rfl]
      split
      · show folF [.take A neg, .yes] text.size w nt (3 * 2 + 3) none ⟨[1, 0], [(0 + 1, [])], [], none⟩ = _
        rw [show (0 + 1, ([] : List (Nat × Nat))) = (1, []) from rfl, hf]
      · rfl
    show (loopF _ text nt text.size w (sweepF [.take A neg, .yes] text.size w nt c [(0, [])] ⟨[1, 0], [], [], none⟩).wait (sweepF [.take A neg, .yes] text.size w nt c [(0, [])] ⟨[1, 0], [], [], none⟩)).fnd.isSome = _
    rw [hsw]
    have hend : ∀ (s : FS), s.wait = [] → loopF [.take A neg, .yes] text nt text.size w s.wait s = s := fun s h => by
      obtain ⟨k, hk⟩ : ∃ k, text.size = k + 1 := ⟨text.size - 1, by omega⟩
      rw [h]
      generalize text.size = E at *
      subst hk
      rw [loopF, if_neg (by simp)]
    have hwt : (if (memS A c != neg) = true then (if w < text.size then (⟨[1, w + 1], [], [], none⟩ : FS) else ⟨[1, w + 1], [], [], some []⟩) else ⟨[1, 0], [], [], none⟩).wait = [] := by
      split
      · split <;> rfl
      · rfl
    rw [hend _ hwt, decide_eq_true hz]
    by_cases hm : (memS A c != neg) = true
    · rw [if_pos hm, hm]
      by_cases hl : w < text.size
      · rw [if_pos hl, decide_eq_false (by omega)]
        rfl
      · rw [if_neg hl, decide_eq_true (by omega)]
        rfl
    · have hm2 : (memS A c != neg) = false := by
        cases h : (memS A c != neg) with
        | false => rfl
        | true => exact absurd h hm
      rw [if_neg hm, hm2]
      simp
  · rw [if_neg (by omega), decide_eq_false hz]
    rfl
/-- A text is one character of the class. -/
def memB (L : List UInt8) (R : Option (UInt8 × UInt8)) (x : ByteArray) : Bool := decide (x.size = 1) && memS (clsA L R) (bAt x 0)
def oneB (x : ByteArray) : Bool := decide (0 < x.size) && (decide (wAt x 0 = x.size) || (decide (wAt x 0 = 0) && decide (x.size = 1)))
theorem dec_w (n b0 b1 b2 b3 : Nat) (h0 : b0 < 256) (h1 : b1 < 256) (h2 : b2 < 256) (h3 : b3 < 256) : (Lib.decodeN n b0 b1 b2 b3).2 = (if wN n b0 b1 b2 b3 = 0 then 1 else wN n b0 b1 b2 b3) ∧ (128 ≤ b0 → 128 ≤ (Lib.decodeN n b0 b1 b2 b3).1) := by
  by_cases c1 : b0 < 128
  · rw [w1 c1]
    unfold Lib.decodeN
    rw [if_pos c1]
    exact ⟨rfl, fun h => by omega⟩
  · by_cases c0 : b0 < 192 ∨ 248 ≤ b0
    · rw [w0 (by omega) c0]
      unfold Lib.decodeN
      rw [if_neg c1, if_neg (by omega), if_neg (by omega), if_neg (by omega)]
      exact ⟨rfl, fun _ => by decide⟩
    · by_cases c2 : b0 < 224
      · rw [w2 (by omega) c2]
        unfold Lib.decodeN
        rw [if_neg c1]
        refine ⟨?_, fun _ => ?_⟩
        all_goals
          repeat' split
          all_goals first | rfl | (exfalso; omega) | (simp only; omega)
      · by_cases c3 : b0 < 240
        · rw [w3 (by omega) c3]
          unfold Lib.decodeN
          rw [if_neg c1, if_neg (by omega)]
          refine ⟨?_, fun _ => ?_⟩
          all_goals
            repeat' split
            all_goals first | rfl | (exfalso; omega) | (simp only; omega)
        · rw [w4 (by omega) (by omega)]
          unfold Lib.decodeN
          rw [if_neg c1, if_neg (by omega), if_neg (by omega)]
          refine ⟨?_, fun _ => ?_⟩
          all_goals
            repeat' split
            all_goals first | rfl | (exfalso; omega) | (simp only; omega)
theorem memS_bound {L : List UInt8} {R : Option (UInt8 × UInt8)} (hL : ∀ b ∈ L, ltr b) (hR : RgOk R) {c : Nat} (h : memS (clsA L R) c = true) : c < 128 := by
  unfold memS at h
  obtain ⟨x, hx, h2⟩ := List.any_eq_true.1 h
  simp only [Bool.and_eq_true, decide_eq_true_eq] at h2
  rcases List.mem_append.1 hx with h3 | h3
  · obtain ⟨b, hb, rfl⟩ := List.mem_map.1 h3
    have := hL b hb
    unfold ltr at this
    unfold spB at h2
    omega
  · cases R with
    | none => cases h3
    | some p =>
      obtain ⟨lo, hi⟩ := p
      obtain ⟨h4, h5, h6⟩ := hR
      rw [List.mem_singleton.1 h3] at h2
      unfold ltr at h4 h5
      simp only at h2
      omega
theorem wN_three (m b0 b1 b2 b3 : Nat) : wN m b0 b1 b2 b3 = 0 ∨ 1 ≤ wN m b0 b1 b2 b3 := by omega
/-- What the program makes of a text of one character, by the document's own reading. -/
theorem char_doc {x : ByteArray} (h : 0 < x.size) : (charR x 0).2 = (if wAt x 0 = 0 then 1 else wAt x 0) ∧ (bAt x 0 < 128 → (charR x 0).1 = bAt x 0 ∧ wAt x 0 = 1) ∧ (128 ≤ bAt x 0 → 128 ≤ (charR x 0).1) := by
  have e : charR x 0 = Lib.decodeN (x.size - 0) (bAt x 0) (bAt x (0 + 1)) (bAt x (0 + 2)) (bAt x (0 + 3)) := by
    rw [charR_drop h, Lib.decodeL_N]
    simp only [List.drop_zero, Nat.sub_zero, ← Lib.size_eq]
    rfl
  obtain ⟨h1, h2⟩ := dec_w (x.size - 0) (bAt x 0) (bAt x (0 + 1)) (bAt x (0 + 2)) (bAt x (0 + 3)) (bAt_lt x _) (bAt_lt x _) (bAt_lt x _) (bAt_lt x _)
  rw [e]
  refine ⟨h1, fun h3 => ⟨?_, ?_⟩, h2⟩
  · unfold Lib.decodeN
    rw [if_pos h3]
  · unfold wAt
    exact w1 h3
theorem class_in {L : List UInt8} {R : Option (UInt8 × UInt8)} (hL : ∀ b ∈ L, ltr b) (hR : RgOk R) (x : ByteArray) (nt : Bool) : (runF (progR (.row [.take (clsA L R) false])) x nt).isSome = memB L R x := by
  rw [class_prog, run_class]
  by_cases hz : 0 < x.size
  · obtain ⟨k1, k2, k3⟩ := charR_ok hz
    obtain ⟨h1, h2, h3⟩ := char_doc hz
    unfold memB
    rw [decide_eq_true hz]
    by_cases hb : bAt x 0 < 128
    · obtain ⟨h4, h5⟩ := h2 hb
      rw [h5, if_neg (by omega)] at h1
      rw [h1, h4]
      have : decide (x.size ≤ 1) = decide (x.size = 1) := by
        by_cases h9 : x.size = 1
        · rw [decide_eq_true h9, decide_eq_true (by omega)]
        · rw [decide_eq_false h9, decide_eq_false (by omega)]
      rw [this]
      simp
    · have hc := h3 (by omega)
      have m1 : memS (clsA L R) (charR x 0).1 = false := by
        cases h : memS (clsA L R) (charR x 0).1 with
        | false => rfl
        | true => have := memS_bound hL hR h; omega
      have m2 : memS (clsA L R) (bAt x 0) = false := by
        cases h : memS (clsA L R) (bAt x 0) with
        | false => rfl
        | true => have := memS_bound hL hR h; omega
      rw [m1, m2]
      simp
  · unfold memB
    rw [decide_eq_false hz, decide_eq_false (by omega : ¬ x.size = 1)]
    rfl
theorem class_out {L : List UInt8} {R : Option (UInt8 × UInt8)} (hL : ∀ b ∈ L, ltr b) (hR : RgOk R) (x : ByteArray) (nt : Bool) : (runF (progR (.row [.take (clsA L R) true])) x nt).isSome = (oneB x && !memB L R x) := by
  rw [class_prog, run_class]
  by_cases hz : 0 < x.size
  · obtain ⟨k1, k2, k3⟩ := charR_ok hz
    obtain ⟨h1, h2, h3⟩ := char_doc hz
    unfold memB oneB
    rw [decide_eq_true hz]
    by_cases hb : bAt x 0 < 128
    · obtain ⟨h4, h5⟩ := h2 hb
      rw [h5, if_neg (by omega)] at h1
      rw [h1, h4, h5]
      by_cases h9 : x.size = 1
      · rw [h9]
        simp
      · rw [decide_eq_false (by omega : ¬ x.size ≤ 1), decide_eq_false (by omega : ¬ 1 = x.size), decide_eq_false h9]
        simp
    · have hc := h3 (by omega)
      have m1 : memS (clsA L R) (charR x 0).1 = false := by
        cases h : memS (clsA L R) (charR x 0).1 with
        | false => rfl
        | true => have := memS_bound hL hR h; omega
      have m2 : memS (clsA L R) (bAt x 0) = false := by
        cases h : memS (clsA L R) (bAt x 0) with
        | false => rfl
        | true => have := memS_bound hL hR h; omega
      rw [m1, m2, h1]
      by_cases h0 : wAt x 0 = 0
      · rw [if_pos h0, h0]
        by_cases h9 : x.size = 1
        · rw [h9]; simp
        · rw [decide_eq_false (by omega : ¬ x.size ≤ 1), decide_eq_false (by omega : ¬ 0 = x.size), decide_eq_false h9]
          simp
      · rw [if_neg h0, decide_eq_false h0]
        have h6 : wAt x 0 ≤ x.size := by
          rw [h1, if_neg h0] at k2
          omega
        by_cases h9 : wAt x 0 = x.size
        · rw [decide_eq_true (by omega : x.size ≤ wAt x 0), decide_eq_true h9]; simp
        · rw [decide_eq_false (by omega : ¬ x.size ≤ wAt x 0), decide_eq_false h9]; simp
  · unfold memB oneB
    rw [decide_eq_false hz]
    rfl
end Go.Proofs.YtmbkcmfcdjccoaaDoor
