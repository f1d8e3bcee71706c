/- A text that is cut: pure. What a part takes of either piece. -/
import Derived.Test.YtmbkcmfcdjccoaaDoorMP75
namespace Go.Proofs.YtmbkcmfcdjccoaaDoor
open Go.RowKit Go.Maps

/-- The place behind so many characters. -/
def posK (u : ByteArray) : Nat → Nat
  | 0 => 0
  | k + 1 => if posK u k < u.size then posK u k + (charR u (posK u k)).2 else posK u k
theorem pos_le (u : ByteArray) : ∀ k, posK u k ≤ u.size
  | 0 => Nat.zero_le _
  | k + 1 => by
    rw [posK]
    split
    · exact (charR_ok (by assumption)).2.1
    · exact pos_le u k
theorem pos_step (u : ByteArray) (k : Nat) : posK u k ≤ posK u (k + 1) := by
  rw [posK]
  split
  · omega
  · exact Nat.le_refl _
theorem pos_mono (u : ByteArray) {j : Nat} : ∀ {k}, j ≤ k → posK u j ≤ posK u k
  | 0, h => by
    obtain rfl : j = 0 := by omega
    exact Nat.le_refl _
  | k + 1, h => by
    rcases Nat.lt_or_ge j (k + 1) with h1 | h1
    · exact Nat.le_trans (pos_mono u (by omega)) (pos_step u k)
    · obtain rfl : j = k + 1 := by omega
      exact Nat.le_refl _
theorem pos_next {u : ByteArray} {j k : Nat} (h : posK u j < posK u k) : posK u j + (charR u (posK u j)).2 ≤ posK u k := by
  have hjk : j < k := by
    rcases Nat.lt_or_ge j k with h1 | h1
    · exact h1
    · have := pos_mono u h1
      omega
  have h1 := pos_mono u (show j + 1 ≤ k from hjk)
  have h2 := pos_le u k
  rw [posK, if_pos (by omega)] at h1
  exact h1
/-- A place between characters. -/
def PosU (u : ByteArray) (c : Nat) : Prop := ∃ k, c = posK u k
theorem dec_trunc {n b0 b1 b2 b3 m d1 d2 d3 : Nat} (h : Lib.decodeN n b0 b1 b2 b3 = (65533, 1)) (hm : m ≤ n) (h0 : 128 ≤ b0) (e1 : 1 < m → d1 = b1) (e2 : 2 < m → d2 = b2) (e3 : 3 < m → d3 = b3) : Lib.decodeN m b0 d1 d2 d3 = (65533, 1) := by
  rcases Lib.decodeN_shape m b0 d1 d2 d3 with ⟨c, e⟩ | ⟨c1, c2, c3, cv, e⟩ | ⟨c1, c2, c3, c4, cv, cs, e⟩ | ⟨c1, c2, c3, c4, c5, cv, cw, e⟩ | e
  · omega
  · have k1 := e1 c2
    have := dec_cut (n := m) (b0 := b0) (b1 := d1) (b2 := d2) (b3 := d3) (m := n) (d1 := b1) (d2 := b2) (d3 := b3) (by rw [e]; simp) (by rw [e]; dsimp only; omega) (fun _ => k1.symm) (fun h => by rw [e] at h; dsimp only at h; omega) (fun h => by rw [e] at h; dsimp only at h; omega)
    rw [h, e] at this
    injection this with _ h9
    omega
  · have k1 := e1 (by omega)
    have k2 := e2 c2
    have := dec_cut (n := m) (b0 := b0) (b1 := d1) (b2 := d2) (b3 := d3) (m := n) (d1 := b1) (d2 := b2) (d3 := b3) (by rw [e]; simp) (by rw [e]; dsimp only; omega) (fun _ => k1.symm) (fun _ => k2.symm) (fun h => by rw [e] at h; dsimp only at h; omega)
    rw [h, e] at this
    injection this with _ h9
    omega
  · have k1 := e1 (by omega)
    have k2 := e2 (by omega)
    have k3 := e3 c2
    have := dec_cut (n := m) (b0 := b0) (b1 := d1) (b2 := d2) (b3 := d3) (m := n) (d1 := b1) (d2 := b2) (d3 := b3) (by rw [e]; simp) (by rw [e]; dsimp only; omega) (fun _ => k1.symm) (fun _ => k2.symm) (fun _ => k3.symm)
    rw [h, e] at this
    injection this with _ h9
    omega
  · exact e
theorem decodeL_take {l : List UInt8} {m : Nat} (hl : l ≠ []) (hw : (Lib.decodeL l).2 ≤ m) : Lib.decodeL (l.take m) = Lib.decodeL l := by
  have hpos := Lib.decodeL_width l
  have hlen : 0 < l.length := List.length_pos_iff.2 hl
  have hle := Lib.decodeL_le l hl
  rcases Nat.lt_or_ge m l.length with hm | hm
  · have hg : ∀ i, i < m → (l.take m).getD i 0 = l.getD i 0 := fun i hi => Lib.getD_takeU l m i hi
    have hlt : (l.take m).length = m := by rw [List.length_take]; omega
    rw [Lib.decodeL_N (l.take m), hlt, hg 0 (by omega)]
    rw [Lib.decodeL_N l] at hw ⊢
    by_cases hv : (Lib.decodeN l.length (l.getD 0 0).toNat (l.getD 1 0).toNat (l.getD 2 0).toNat (l.getD 3 0).toNat).1 = 65533 ∧ (Lib.decodeN l.length (l.getD 0 0).toNat (l.getD 1 0).toNat (l.getD 2 0).toNat (l.getD 3 0).toNat).2 = 1
    · have he : Lib.decodeN l.length (l.getD 0 0).toNat (l.getD 1 0).toNat (l.getD 2 0).toNat (l.getD 3 0).toNat = (65533, 1) := Prod.ext hv.1 hv.2
      rw [he]
      by_cases h0 : (l.getD 0 0).toNat < 128
      · rw [Lib.decodeN_ascii _ _ _ _ _ h0] at he
        injection he with h9
        omega
      · exact dec_trunc he (by omega) (by omega) (fun h => by rw [hg 1 h]) (fun h => by rw [hg 2 h]) (fun h => by rw [hg 3 h])
    · exact dec_cut hv hw (fun h => by rw [hg 1 (by omega)]) (fun h => by rw [hg 2 (by omega)]) (fun h => by rw [hg 3 (by omega)])
  · rw [List.take_of_length_le hm]
theorem size_cut {u : ByteArray} {i : Nat} (hi : i ≤ u.size) : (u.extract 0 i).size = i := by
  rw [ByteArray.size_extract]
  omega
theorem size_rest {u : ByteArray} {i : Nat} : (u.extract i u.size).size = u.size - i := by
  rw [ByteArray.size_extract]
  omega
theorem char_cut {u : ByteArray} {i c : Nat} (hi : i ≤ u.size) (hc : c < i) (hw : c + (charR u c).2 ≤ i) : charR (u.extract 0 i) c = charR u c := by
  have e1 : charR u c = Lib.decodeL (u.data.toList.drop c) := charR_drop (by omega)
  have e2 : charR (u.extract 0 i) c = Lib.decodeL ((u.extract 0 i).data.toList.drop c) := charR_drop (by rw [size_cut hi]; exact hc)
  rw [e1] at hw ⊢
  rw [e2]
  have he : (u.extract 0 i).data.toList.drop c = (u.data.toList.drop c).take (i - c) := by
    rw [Lib.extract_data, List.drop_zero, Nat.sub_zero, List.drop_take]
  rw [he]
  refine decodeL_take (fun e => ?_) (by omega)
  have := congrArg List.length e
  rw [List.length_drop, ← Lib.size_eq] at this
  have : u.size - c = 0 := this
  omega
theorem char_rest {u : ByteArray} {i c : Nat} (hc : i + c < u.size) : charR (u.extract i u.size) c = charR u (i + c) := by
  rw [charR_drop (by rw [size_rest]; omega), charR_drop hc, Lib.extract_data, List.take_of_length_le (by rw [List.length_drop, ← Lib.size_eq]; omega), List.drop_drop]
mutual
/-- A part that speaks of no end of the text. -/
def NoA : Nd → Prop
  | .take _ _ => True
  | .start => False
  | .stop => False
  | .row l => NoAs l
  | .either a b => NoA a ∧ NoA b
  | .group _ a => NoA a
  | .plus a _ => NoA a
  | .times a _ _ _ => NoA a
def NoAs : List Nd → Prop
  | [] => True
  | a :: t => NoA a ∧ NoAs t
end
section
variable {u : ByteArray} {i : Nat}
/-- On from places between characters to such places. -/
def PosR (u : ByteArray) (R : Nat → Nat → Prop) : Prop := ∀ c d, R c d → c ≤ d ∧ (PosU u c → PosU u d)
/-- In the piece ahead just what does not go beyond it. -/
def PreR (u : ByteArray) (i : Nat) (R1 R : Nat → Nat → Prop) : Prop := ∀ c d, PosU u c → c ≤ i → (R1 c d ↔ R c d ∧ d ≤ i)
/-- In the piece behind just the same. -/
def PstR (i : Nat) (R2 R : Nat → Nat → Prop) : Prop := ∀ c d, R2 c d ↔ R (i + c) (i + d)
theorem iter_pos {R : Nat → Nat → Prop} (h : PosR u R) : ∀ n, PosR u (iterR R n)
  | 0, c, d, e => by
    have e : c = d := e
    subst e
    exact ⟨Nat.le_refl _, id⟩
  | n + 1, c, d, ⟨e, h1, h2⟩ => by
    obtain ⟨k1, k2⟩ := h c e h1
    obtain ⟨k3, k4⟩ := iter_pos h n e d h2
    exact ⟨by omega, fun hc => k4 (k2 hc)⟩
theorem iter_pre {R1 R : Nat → Nat → Prop} (hp : PosR u R) (h : PreR u i R1 R) : ∀ n, PreR u i (iterR R1 n) (iterR R n)
  | 0, c, d, hc, hi => by
    constructor
    · intro e
      have e : c = d := e
      subst e
      exact ⟨rfl, hi⟩
    · exact fun e => e.1
  | n + 1, c, d, hc, hi => by
    constructor
    · rintro ⟨e, h1, h2⟩
      obtain ⟨k1, k2⟩ := (h c e hc hi).1 h1
      obtain ⟨k3, k4⟩ := (iter_pre hp h n e d ((hp c e k1).2 hc) k2).1 h2
      exact ⟨⟨e, k1, k3⟩, k4⟩
    · rintro ⟨⟨e, h1, h2⟩, hd⟩
      obtain ⟨k1, k2⟩ := hp c e h1
      obtain ⟨k3, k4⟩ := iter_pos hp n e d h2
      exact ⟨e, (h c e hc hi).2 ⟨h1, by omega⟩, (iter_pre hp h n e d (k2 hc) (by omega)).2 ⟨h2, hd⟩⟩
theorem iter_pst {R2 R : Nat → Nat → Prop} (hp : PosR u R) (h : PstR i R2 R) : ∀ n, PstR i (iterR R2 n) (iterR R n)
  | 0, c, d => by
    show c = d ↔ i + c = i + d
    omega
  | n + 1, c, d => by
    constructor
    · rintro ⟨e, h1, h2⟩
      exact ⟨i + e, (h c e).1 h1, (iter_pst hp h n e d).1 h2⟩
    · rintro ⟨e, h1, h2⟩
      have := (hp _ _ h1).1
      obtain ⟨e', rfl⟩ : ∃ e', e = i + e' := ⟨e - i, by omega⟩
      exact ⟨e', (h c e').2 h1, (iter_pst hp h n e' d).2 h2⟩
mutual
theorem nd_pos (u : ByteArray) : ∀ n, PosR u (mN u n)
  | .take l neg, c, d, h => by
    rw [mN] at h
    obtain ⟨h1, _, rfl⟩ := h
    refine ⟨by omega, ?_⟩
    rintro ⟨k, rfl⟩
    exact ⟨k + 1, by rw [posK, if_pos h1]⟩
  | .start, c, d, h => by
    rw [mN] at h
    obtain ⟨_, rfl⟩ := h
    exact ⟨Nat.le_refl _, id⟩
  | .stop, c, d, h => by
    rw [mN] at h
    obtain ⟨_, rfl⟩ := h
    exact ⟨Nat.le_refl _, id⟩
  | .row l, c, d, h => by
    rw [mN] at h
    exact nds_pos u l c d h
  | .either a b, c, d, h => by
    rw [mN] at h
    exact h.elim (nd_pos u a c d) (nd_pos u b c d)
  | .group _ a, c, d, h => by
    rw [mN] at h
    exact nd_pos u a c d h
  | .plus a _, c, d, h => by
    rw [mN] at h
    obtain ⟨n, h⟩ := h
    exact iter_pos (nd_pos u a) (n + 1) c d h
  | .times a lo hi _, c, d, h => by
    rw [mN] at h
    obtain ⟨n, _, _, h⟩ := h
    exact iter_pos (nd_pos u a) n c d h
theorem nds_pos (u : ByteArray) : ∀ l, PosR u (mNs u l)
  | [], c, d, h => by
    rw [mNs] at h
    subst h
    exact ⟨Nat.le_refl _, id⟩
  | a :: t, c, d, h => by
    rw [mNs] at h
    obtain ⟨e, h1, h2⟩ := h
    obtain ⟨k1, k2⟩ := nd_pos u a c e h1
    obtain ⟨k3, k4⟩ := nds_pos u t e d h2
    exact ⟨by omega, fun hc => k4 (k2 hc)⟩
end
mutual
theorem nd_pre (hi : PosU u i) : ∀ n, NoA n → PreR u i (mN (u.extract 0 i) n) (mN u n)
  | .take l neg, _, c, d, hc, hci => by
    have hz : i ≤ u.size := by
      obtain ⟨k, rfl⟩ := hi
      exact pos_le u k
    have hw : c < i → c + (charR u c).2 ≤ i := by
      obtain ⟨k, rfl⟩ := hi
      obtain ⟨j, rfl⟩ := hc
      exact pos_next
    rw [mN, mN, size_cut hz]
    constructor
    · rintro ⟨h1, h2, rfl⟩
      rw [char_cut hz h1 (hw h1)] at h2 ⊢
      exact ⟨⟨by omega, h2, rfl⟩, hw h1⟩
    · rintro ⟨⟨h1, h2, rfl⟩, h3⟩
      have h4 : c < i := by
        have := (charR_ok h1).1
        omega
      rw [char_cut hz h4 (hw h4)]
      exact ⟨h4, h2, rfl⟩
  | .start, h, _, _, _, _ => by rw [NoA] at h; exact h.elim
  | .stop, h, _, _, _, _ => by rw [NoA] at h; exact h.elim
  | .row l, h, c, d, hc, hci => by
    rw [NoA] at h
    rw [mN, mN]
    exact nds_pre hi l h c d hc hci
  | .either a b, h, c, d, hc, hci => by
    rw [NoA] at h
    rw [mN, mN, nd_pre hi a h.1 c d hc hci, nd_pre hi b h.2 c d hc hci, or_and_right]
  | .group _ a, h, c, d, hc, hci => by
    rw [NoA] at h
    rw [mN, mN]
    exact nd_pre hi a h c d hc hci
  | .plus a _, h, c, d, hc, hci => by
    rw [NoA] at h
    rw [mN, mN]
    have ih := iter_pre (nd_pos u a) (nd_pre hi a h)
    constructor
    · rintro ⟨n, h1⟩
      obtain ⟨k1, k2⟩ := (ih (n + 1) c d hc hci).1 h1
      exact ⟨⟨n, k1⟩, k2⟩
    · rintro ⟨⟨n, h1⟩, h2⟩
      exact ⟨n, (ih (n + 1) c d hc hci).2 ⟨h1, h2⟩⟩
  | .times a lo hi' _, h, c, d, hc, hci => by
    rw [NoA] at h
    rw [mN, mN]
    have ih := iter_pre (nd_pos u a) (nd_pre hi a h)
    constructor
    · rintro ⟨n, e1, e2, h1⟩
      obtain ⟨k1, k2⟩ := (ih n c d hc hci).1 h1
      exact ⟨⟨n, e1, e2, k1⟩, k2⟩
    · rintro ⟨⟨n, e1, e2, h1⟩, h2⟩
      exact ⟨n, e1, e2, (ih n c d hc hci).2 ⟨h1, h2⟩⟩
theorem nds_pre (hi : PosU u i) : ∀ l, NoAs l → PreR u i (mNs (u.extract 0 i) l) (mNs u l)
  | [], _, c, d, _, hci => by
    rw [mNs, mNs]
    constructor
    · rintro rfl
      exact ⟨rfl, hci⟩
    · exact fun h => h.1
  | a :: t, h, c, d, hc, hci => by
    rw [NoAs] at h
    rw [mNs, mNs]
    constructor
    · rintro ⟨e, h1, h2⟩
      obtain ⟨k1, k2⟩ := (nd_pre hi a h.1 c e hc hci).1 h1
      obtain ⟨k3, k4⟩ := (nds_pre hi t h.2 e d ((nd_pos u a c e k1).2 hc) k2).1 h2
      exact ⟨⟨e, k1, k3⟩, k4⟩
    · rintro ⟨⟨e, h1, h2⟩, hd⟩
      obtain ⟨k1, k2⟩ := nd_pos u a c e h1
      obtain ⟨k3, k4⟩ := nds_pos u t e d h2
      exact ⟨e, (nd_pre hi a h.1 c e hc hci).2 ⟨h1, by omega⟩, (nds_pre hi t h.2 e d (k2 hc) (by omega)).2 ⟨h2, hd⟩⟩
end
mutual
theorem nd_pst : ∀ n, NoA n → PstR i (mN (u.extract i u.size) n) (mN u n)
  | .take l neg, _, c, d => by
    rw [mN, mN, size_rest]
    constructor
    · rintro ⟨h1, h2, rfl⟩
      have h3 : i + c < u.size := by omega
      rw [char_rest h3] at h2 ⊢
      exact ⟨h3, h2, by omega⟩
    · rintro ⟨h1, h2, h3⟩
      rw [char_rest h1]
      exact ⟨by omega, h2, by omega⟩
  | .start, h, _, _ => by rw [NoA] at h; exact h.elim
  | .stop, h, _, _ => by rw [NoA] at h; exact h.elim
  | .row l, h, c, d => by
    rw [NoA] at h
    rw [mN, mN]
    exact nds_pst l h c d
  | .either a b, h, c, d => by
    rw [NoA] at h
    rw [mN, mN, nd_pst a h.1 c d, nd_pst b h.2 c d]
  | .group _ a, h, c, d => by
    rw [NoA] at h
    rw [mN, mN]
    exact nd_pst a h c d
  | .plus a _, h, c, d => by
    rw [NoA] at h
    rw [mN, mN]
    have ih := iter_pst (nd_pos u a) (nd_pst a h)
    exact ⟨fun ⟨n, h1⟩ => ⟨n, (ih (n + 1) c d).1 h1⟩, fun ⟨n, h1⟩ => ⟨n, (ih (n + 1) c d).2 h1⟩⟩
  | .times a lo hi' _, h, c, d => by
    rw [NoA] at h
    rw [mN, mN]
    have ih := iter_pst (nd_pos u a) (nd_pst a h)
    exact ⟨fun ⟨n, e1, e2, h1⟩ => ⟨n, e1, e2, (ih n c d).1 h1⟩, fun ⟨n, e1, e2, h1⟩ => ⟨n, e1, e2, (ih n c d).2 h1⟩⟩
theorem nds_pst : ∀ l, NoAs l → PstR i (mNs (u.extract i u.size) l) (mNs u l)
  | [], _, c, d => by
    rw [mNs, mNs]
    omega
  | a :: t, h, c, d => by
    rw [NoAs] at h
    rw [mNs, mNs]
    constructor
    · rintro ⟨e, h1, h2⟩
      exact ⟨i + e, (nd_pst a h.1 c e).1 h1, (nds_pst t h.2 e d).1 h2⟩
    · rintro ⟨e, h1, h2⟩
      have := (nd_pos u a _ _ h1).1
      obtain ⟨e', rfl⟩ : ∃ e', e = i + e' := ⟨e - i, by omega⟩
      exact ⟨e', (nd_pst a h.1 c e').2 h1, (nds_pst t h.2 e' d).2 h2⟩
end
end
/-- A text is meant by both just if it can be cut into what either means. -/
theorem cut_means {u : ByteArray} {x y : Nd} (hx : NoA x) (hy : NoA y) : (∃ b, mNs u [x, y] 0 b ∧ ¬ b < u.size) ↔ ∃ k, meansN x (u.extract 0 (posK u k)) ∧ meansN y (u.extract (posK u k) u.size) := by
  constructor
  · rintro ⟨b, h1, h2⟩
    rw [mNs] at h1
    obtain ⟨c, h1, h3⟩ := h1
    rw [mNs] at h3
    obtain ⟨d, h3, h4⟩ := h3
    rw [mNs] at h4
    subst h4
    obtain ⟨k, hk⟩ := (nd_pos u x 0 c h1).2 ⟨0, rfl⟩
    have hcd := (nd_pos u y c d h3).1
    have hz := pos_le u k
    rw [← hk] at hz
    refine ⟨k, ?_, ?_⟩
    · rw [← hk]
      refine ⟨c, (nd_pre ⟨k, hk⟩ x hx 0 c ⟨0, rfl⟩ (Nat.zero_le _)).2 ⟨h1, Nat.le_refl _⟩, ?_⟩
      rw [size_cut hz]
      omega
    · rw [← hk]
      obtain ⟨e, rfl⟩ : ∃ e, d = c + e := ⟨d - c, by omega⟩
      refine ⟨e, (nd_pst y hy 0 e).2 h3, ?_⟩
      rw [size_rest]
      omega
  · rintro ⟨k, ⟨b, h1, h2⟩, ⟨e, h3, h4⟩⟩
    have hz := pos_le u k
    obtain ⟨c, hc⟩ : ∃ c, c = posK u k := ⟨_, rfl⟩
    rw [← hc] at h1 h2 h3 h4 hz
    rw [size_cut hz] at h2
    rw [size_rest] at h4
    obtain ⟨k1, k2⟩ := (nd_pre ⟨k, hc⟩ x hx 0 b ⟨0, rfl⟩ (Nat.zero_le _)).1 h1
    obtain rfl : b = c := by omega
    refine ⟨b + e, ?_, by omega⟩
    rw [mNs]
    refine ⟨b, k1, ?_⟩
    rw [mNs]
    exact ⟨b + e, (nd_pst y hy 0 e).1 h3, by rw [mNs]⟩
end Go.Proofs.YtmbkcmfcdjccoaaDoor
