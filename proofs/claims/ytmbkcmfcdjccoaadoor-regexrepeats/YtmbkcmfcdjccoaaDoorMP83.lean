/- Repeats, and the rows that they stand for: pure. -/
import Derived.Test.YtmbkcmfcdjccoaaDoorMP54
namespace Go.Proofs.YtmbkcmfcdjccoaaDoor
open Go.RowKit Go.Maps

theorem num_one {t : ByteArray} {i v : Nat} {b c : UInt8} {rest : List UInt8} (h : t.data.toList.drop i = b :: c :: rest) (hb : b.toNat = 48 + v) (hv : v ≤ 9) (hc : c.toNat < 48 ∨ 57 < c.toNat) : numR t i = .yes v (i + 1) := by
  have h1 := (at_drop h).2
  have h2 := at_drop h1.2
  have hz := h1.1
  unfold numR
  by_cases h0 : v = 0
  · subst h0
    have : b = 48 := UInt8.toNat_inj.1 hb
    rw [if_pos (by rw [sees_at h, this]; rfl)]
  · have hn : seesB t i 48 = false := by
      rw [sees_at h]
      have : b ≠ 48 := fun e => by subst e; have : (48 : UInt8).toNat = 48 := rfl; omega
      simpa using this
    have hd : digsR t t.size i 0 = (v, i + 1) := by
      obtain ⟨k, hk⟩ : ∃ k, t.size = k + 1 := ⟨t.size - 1, by omega⟩
      have key : ∀ k, digsR t k (i + 1) v = (v, i + 1) := fun k => by
        cases k with
        | zero => rw [digsR]
        | succ k =>
          rw [digsR, h2.1]
          dsimp only
          rw [if_neg (by
            rintro ⟨e1, e2⟩
            have e1 : (48 : UInt8).toNat ≤ c.toNat := e1
            have e2 : c.toNat ≤ (57 : UInt8).toNat := e2
            have : (48 : UInt8).toNat = 48 := rfl
            have : (57 : UInt8).toNat = 57 := rfl
            omega)]
      rw [hk, digsR, (at_drop h).1]
      dsimp only
      rw [if_pos (by
        constructor
        · show (48 : UInt8).toNat ≤ b.toNat
          have : (48 : UInt8).toNat = 48 := rfl
          omega
        · show b.toNat ≤ (57 : UInt8).toNat
          have : (57 : UInt8).toNat = 57 := rfl
          omega), show min (0 * 10 + (b.toNat - 48)) 101 = v by omega]
      exact key k
    rw [hn, hd]
    dsimp only
    rw [if_neg (by decide), if_neg (by omega)]
theorem rep_comp {t : ByteArray} {I : Itm} {suf : List UInt8} {F : Nd → Nd} (hI : I.Ok) (ht : t.size ≤ 256) (h : t.data.toList = itB I ++ suf) (hr : ∀ x, repR t x (itB I).length = .yes (F x) t.size) (hF : ∀ x x', SameN x x' → SameN (F x) (F x')) : compR t = .large ∨ ∃ y g, compR t = .ok y g ∧ ∀ u, meansN y u ↔ meansN (F I.x) u := by
  have h0 : t.data.toList.drop 0 = 40 :: 63 :: 58 :: (I.s.data.toList ++ 41 :: suf) := by
    rw [List.drop_zero, h]
    simp [itB]
  have hl : (itB I).length + suf.length = t.size := by rw [Lib.size_eq, h, List.length_append]
  have hil := itB_len I
  obtain ⟨m, hm⟩ : ∃ m, 5 * t.size + 2 = m + 3 := ⟨5 * t.size - 1, by omega⟩
  obtain ⟨x', k1, k2⟩ := ctx_thing0 h0 hI (m := m) (by omega) 0
  have hp : partR t (m + 1) 0 0 = .yes (F x') t.size (0 + I.g) := by
    rw [part_one, if_neg (by rw [sees_at h0]; decide), if_neg (by rw [sees_at h0]; decide), k1]
    have he : 0 + I.s.size + 4 = (itB I).length := by omega
    rw [he]
    dsimp only
    rw [hr]
  have hrow : rowR t (m + 2) 0 0 [] = .yes (.row [F x']) t.size (0 + I.g) := by
    rw [row_one, if_neg (by
      rintro (h9 | h9 | h9)
      · omega
      · rw [sees_at h0] at h9; cases h9
      · rw [sees_at h0] at h9; cases h9), hp]
    dsimp only
    rw [row_one, if_pos (Or.inl (Nat.le_refl _))]
    rfl
  have he : readS t = .yes (.row [F x']) t.size (0 + I.g) := by
    unfold readS
    rw [hm, either_one, hrow]
    dsimp only
    rw [if_pos (sees_end t 124)]
  unfold compR
  rw [if_neg (by omega), he]
  dsimp only
  rw [if_neg (Nat.lt_irrefl _)]
  by_cases h3 : 2000 < sizeN (.row [F x']) + 1
  · rw [if_pos h3]
    exact Or.inl rfl
  · rw [if_neg h3]
    refine Or.inr ⟨_, _, rfl, fun u => ?_⟩
    have hs : ∀ b, mN u (.row [F x']) 0 b ↔ mN u (F I.x) 0 b := fun b => by
      rw [mN, hF I.x x' k2 u]
      simp [mNs]
    exact ⟨fun ⟨b, h4, h5⟩ => ⟨b, (hs b).1 h4, h5⟩, fun ⟨b, h4, h5⟩ => ⟨b, (hs b).2 h4, h5⟩⟩
/-- The signs behind a thing, and what they make of it. -/
def sufB (k lo hi : Nat) : List UInt8 := if k = 0 then [123, (48 + lo).toUInt8, 125] else if k = 1 then [123, (48 + lo).toUInt8, 44, (48 + hi).toUInt8, 125] else if k = 2 then [43] else [63]
def sufF (k lo hi : Nat) (x : Nd) : Nd := if k = 0 then .times x lo lo false else if k = 1 then .times x lo hi false else if k = 2 then .plus x false else .times x 0 1 false
theorem suf_same (k lo hi : Nat) (x x' : Nd) (h : SameN x x') : SameN (sufF k lo hi x) (sufF k lo hi x') := by
  unfold sufF
  by_cases h0 : k = 0
  · rw [if_pos h0, if_pos h0]
    exact h.times _ _ _
  · rw [if_neg h0, if_neg h0]
    by_cases h1 : k = 1
    · rw [if_pos h1, if_pos h1]
      exact h.times _ _ _
    · rw [if_neg h1, if_neg h1]
      by_cases h2 : k = 2
      · rw [if_pos h2, if_pos h2]
        exact h.plus _
      · rw [if_neg h2, if_neg h2]
        exact h.times _ _ _
theorem dig_nat {v : Nat} (h : v ≤ 9) : ((48 + v).toUInt8).toNat = 48 + v := by
  rw [UInt8.toNat_ofNat']
  omega
theorem suf_read {t : ByteArray} {q k lo hi : Nat} (hk : k < 4) (h : t.data.toList.drop q = sufB k lo hi) (hlo : lo ≤ 3) (hhi : hi ≤ 6) (hlh : lo ≤ hi) (x : Nd) : repR t x q = .yes (sufF k lo hi x) t.size := by
  have hz : q + (sufB k lo hi).length = t.size ∨ t.size ≤ q := by
    have := congrArg List.length h
    rw [List.length_drop, ← Lib.size_eq] at this
    omega
  have hne : 0 < (sufB k lo hi).length := by
    unfold sufB
    repeat' split
    all_goals simp
  have hqs : q < t.size := by
    rcases hz with hz | hz
    · omega
    · have := congrArg List.length h
      rw [List.length_drop, ← Lib.size_eq] at this
      omega
  have hz : q + (sufB k lo hi).length = t.size := by omega
  have hend : ∀ {j}, t.data.toList.drop j = [] → seesB t j 63 = false := fun hj => sees_none (drop_nil hj) 63
  unfold repR
  rcases (by omega : k = 0 ∨ k = 1 ∨ k = 2 ∨ k = 3) with rfl | rfl | rfl | rfl
  · have h : t.data.toList.drop q = [123, (48 + lo).toUInt8, 125] := h
    have hz : q + 3 = t.size := hz
    have h1 := (at_drop h).2.2
    have h2 := (at_drop h1).2.2
    have h3 := (at_drop h2).2.2
    have hn := num_one h1 (dig_nat (by omega)) (by omega) (by decide)
    have hc : countR t (q + 1) = .yes (lo, (lo : Int)) (q + 3) := by
      unfold countR
      rw [hn]
      dsimp only
      rw [if_pos (by rw [sees_at h2]; rfl)]
      unfold endR
      rw [if_neg]
      rintro (h9 | h9 | h9 | h9)
      · rw [sees_at h2] at h9
        cases h9
      · omega
      · omega
      · omega
    rw [if_neg (by rw [sees_at h]; decide), if_neg (by rw [sees_at h]; decide), if_neg (by rw [sees_at h]; decide), if_pos (by rw [sees_at h]; rfl), hc]
    dsimp only
    rw [hend h3, if_neg (by decide), hz]
    rfl
  · have h : t.data.toList.drop q = [123, (48 + lo).toUInt8, 44, (48 + hi).toUInt8, 125] := h
    have hz : q + 5 = t.size := hz
    have h1 := (at_drop h).2.2
    have h2 := (at_drop h1).2.2
    have h3 := (at_drop h2).2.2
    have h4 := (at_drop h3).2.2
    have h5 := (at_drop h4).2.2
    have hn := num_one h1 (dig_nat (by omega)) (by omega) (by decide)
    have hn2 := num_one h3 (dig_nat (by omega)) (by omega) (by decide)
    have h125 : seesB t (q + 1 + 1 + 1) 125 = false := by
      rw [sees_at h3]
      have : (48 + hi).toUInt8 ≠ 125 := fun e => by
        have h9 := dig_nat (v := hi) (by omega)
        rw [e] at h9
        have : (125 : UInt8).toNat = 125 := rfl
        omega
      simpa using this
    have hc : countR t (q + 1) = .yes (lo, (hi : Int)) (q + 5) := by
      unfold countR
      rw [hn]
      dsimp only
      rw [if_neg (by rw [sees_at h2]; decide), if_neg (by rw [h125]; decide), hn2]
      dsimp only
      unfold endR
      rw [if_neg]
      rintro (h9 | h9 | h9 | h9)
      · rw [sees_at h4] at h9
        cases h9
      · omega
      · omega
      · omega
    rw [if_neg (by rw [sees_at h]; decide), if_neg (by rw [sees_at h]; decide), if_neg (by rw [sees_at h]; decide), if_pos (by rw [sees_at h]; rfl), hc]
    dsimp only
    rw [hend h5, if_neg (by decide), hz]
    rfl
  · have h : t.data.toList.drop q = [43] := h
    have hz : q + 1 = t.size := hz
    have h1 := (at_drop h).2.2
    rw [if_neg (by rw [sees_at h]; decide), if_pos (by rw [sees_at h]; rfl), hend h1, if_neg (by decide), hz]
    rfl
  · have h : t.data.toList.drop q = [63] := h
    have hz : q + 1 = t.size := hz
    have h1 := (at_drop h).2.2
    rw [if_neg (by rw [sees_at h]; decide), if_neg (by rw [sees_at h]; decide), if_pos (by rw [sees_at h]; rfl), hend h1, if_neg (by decide), hz]
    rfl
/-- From how often to how often, as rows are written. -/
def frK (k lo : Nat) : Nat := if k < 2 then lo else if k = 2 then 1 else 0
def toK (k lo hi : Nat) : Nat := if k = 0 then lo else if k = 1 then hi else if k = 2 then 5 else 1
/-- A text is so many of it. -/
def ManyN (x : Nd) (fr up : Nat) (u : ByteArray) : Prop := ∃ c, fr ≤ c ∧ c ≤ up ∧ ∃ b, iterR (mN u x) c 0 b ∧ ¬ b < u.size
theorem iter_few {R : Nat → Nat → Prop} (hR : ∀ c d, R c d → c ≤ d) : ∀ (n a b : Nat), iterR R (n + 1) a b → ∃ m, m + 1 ≤ max 1 (b - a) ∧ iterR R (m + 1) a b
  | 0, a, b, h => ⟨0, by omega, h⟩
  | n + 1, a, b, ⟨c, h1, h2⟩ => by
    have hac := hR a c h1
    obtain ⟨m, h3, h4⟩ := iter_few hR n c b h2
    rcases Nat.lt_or_ge a c with h5 | h5
    · rcases Nat.lt_or_ge c b with h6 | h6
      · exact ⟨m + 1, by omega, c, h1, h4⟩
      · have hcb : c ≤ b := by
          have key : ∀ (k : Nat) (p q : Nat), iterR R k p q → p ≤ q := fun k => by
            induction k with
            | zero => exact fun p q h => by have h : p = q := h; omega
            | succ k ih =>
              rintro p q ⟨r, h7, h8⟩
              have := hR p r h7
              have := ih r q h8
              omega
          exact key _ _ _ h4
        obtain rfl : c = b := by omega
        exact ⟨0, by omega, c, h1, rfl⟩
    · obtain rfl : a = c := by omega
      exact ⟨m, h3, h4⟩
theorem suf_means {k lo hi : Nat} (hk : k < 4) (hlh : lo ≤ hi) (x : Nd) (u : ByteArray) (hu : k = 2 → u.size ≤ 5) : meansN (sufF k lo hi x) u ↔ ManyN x (frK k lo) (toK k lo hi) u := by
  have ht : ∀ (l h : Nat) (lz : Bool), l ≤ h → (meansN (.times x l h lz) u ↔ ManyN x l h u) := fun l h lz hlh => by
    constructor
    · rintro ⟨b, h1, h2⟩
      rw [mN] at h1
      obtain ⟨n, h3, h4, h5⟩ := h1
      exact ⟨n, h3, by omega, b, h5, h2⟩
    · rintro ⟨n, h3, h4, b, h5, h2⟩
      refine ⟨b, ?_, h2⟩
      rw [mN]
      exact ⟨n, h3, Or.inr (by omega), h5⟩
  rcases (by omega : k = 0 ∨ k = 1 ∨ k = 2 ∨ k = 3) with rfl | rfl | rfl | rfl
  · exact ht lo lo false (Nat.le_refl _)
  · exact ht lo hi false hlh
  · show meansN (.plus x false) u ↔ ManyN x 1 5 u
    constructor
    · rintro ⟨b, h1, h2⟩
      rw [mN] at h1
      obtain ⟨n, h3⟩ := h1
      obtain ⟨m, h4, h5⟩ := iter_few (fun c d h => (nd_pos u x c d h).1) n 0 b h3
      obtain ⟨j, hj⟩ := (iter_pos (nd_pos u x) _ 0 b h3).2 ⟨0, rfl⟩
      have := pos_le u j
      have := hu rfl
      exact ⟨m + 1, by omega, by omega, b, h5, h2⟩
    · rintro ⟨c, h3, h4, b, h5, h2⟩
      obtain ⟨n, rfl⟩ : ∃ n, c = n + 1 := ⟨c - 1, by omega⟩
      refine ⟨b, ?_, h2⟩
      rw [mN]
      exact ⟨n, h5⟩
  · exact ht 0 1 false (by omega)
/-- A thing and the signs of a repeat. -/
theorem rep_mat {t : ByteArray} {I : Itm} {k lo hi : Nat} (hI : I.Ok) (hs : I.s.size ≤ 25) (hk : k < 4) (hlo : lo ≤ 3) (hhi : hi ≤ 6) (hlh : lo ≤ hi) (h : t.data.toList = itB I ++ sufB k lo hi) : compR t = .large ∨ ∃ y g, compR t = .ok y g ∧ ∀ u, (k = 2 → u.size ≤ 5) → (matB y u = true ↔ ManyN I.x (frK k lo) (toK k lo hi) u) := by
  have hl : (sufB k lo hi).length ≤ 5 := by
    unfold sufB
    repeat' split
    all_goals simp
  have hsz : t.size ≤ 256 := by
    rw [Lib.size_eq, h, List.length_append, itB_len]
    omega
  have hd : t.data.toList.drop (itB I).length = sufB k lo hi := by rw [h]; simp
  refine (rep_comp hI hsz h (F := sufF k lo hi) (fun x => suf_read hk hd hlo hhi hlh x) (suf_same k lo hi)).imp id ?_
  rintro ⟨y, g, h1, h2⟩
  exact ⟨y, g, h1, fun u hu => by rw [mat_iff, h2, suf_means hk hlh _ u hu]⟩
/-- So many things in a row, from so many on. -/
def rowsB (I : Itm) (fr n : Nat) : List UInt8 := altB ((List.range' fr n).map fun c => List.replicate c I)
theorem altB_snoc : ∀ (L : List (List Itm)) (r : List Itm), altB (L ++ [r]) = if L = [] then rowB r else altB L ++ 124 :: rowB r
  | [], r => rfl
  | [q], r => rfl
  | q :: p :: L, r => by
    have ih := altB_snoc (p :: L) r
    rw [if_neg (by simp)] at ih ⊢
    show rowB q ++ 124 :: altB ((p :: L) ++ [r]) = rowB q ++ 124 :: altB (p :: L) ++ 124 :: rowB r
    rw [ih]
    simp
theorem rowsB_succ (I : Itm) (fr n : Nat) : rowsB I fr (n + 1) = rowsB I fr n ++ (if n = 0 then [] else [124]) ++ rowB (List.replicate (fr + n) I) := by
  unfold rowsB
  rw [List.range'_concat, List.map_append, List.map_cons, List.map_nil, altB_snoc, Nat.one_mul]
  by_cases h : n = 0
  · subst h
    rfl
  · rw [if_neg h, if_neg (by
      intro e
      have := congrArg List.length e
      simp at this
      exact h this)]
    simp
theorem rowB_succ (I : Itm) (j : Nat) : rowB (List.replicate (j + 1) I) = rowB (List.replicate j I) ++ itB I := by
  rw [List.replicate_succ']
  unfold rowB
  rw [List.flatMap_append]
  simp
theorem mNs_replicate (u : ByteArray) (I : Itm) : ∀ (c a b : Nat), mNs u ((List.replicate c I).map Itm.x) a b ↔ iterR (mN u I.x) c a b
  | 0, a, b => by
    show mNs u [] a b ↔ a = b
    rw [mNs]
  | c + 1, a, b => by
    rw [List.replicate_succ, List.map_cons, mNs]
    constructor
    · rintro ⟨d, h1, h2⟩
      exact ⟨d, h1, (mNs_replicate u I c d b).1 h2⟩
    · rintro ⟨d, h1, h2⟩
      exact ⟨d, h1, (mNs_replicate u I c d b).2 h2⟩
/-- Rows of so many things. -/
theorem rows_mat {t : ByteArray} {I : Itm} {fr up : Nat} (hI : I.Ok) (hft : fr ≤ up) (h : t.data.toList = rowsB I fr (up + 1 - fr)) : compR t = .large ∨ ∃ y g, compR t = .ok y g ∧ ∀ u, matB y u = true ↔ ManyN I.x fr up u := by
  by_cases hsz : 256 < t.size
  · left
    unfold compR
    rw [if_pos hsz]
  · refine (comp_items (L := (List.range' fr (up + 1 - fr)).map fun c => List.replicate c I) (by
      intro e
      have := congrArg List.length e
      simp at this
      omega) (fun r hr J hJ => ?_) (by omega) h).imp id ?_
    · obtain ⟨c, -, rfl⟩ := List.mem_map.1 hr
      rw [List.eq_of_mem_replicate hJ]
      exact hI
    · rintro ⟨y, g, h1, h2⟩
      refine ⟨y, g, h1, fun u => ?_⟩
      rw [mat_iff, h2]
      constructor
      · rintro ⟨r, hr, b, h3, h4⟩
        obtain ⟨c, hc, rfl⟩ := List.mem_map.1 hr
        rw [List.mem_range'_1] at hc
        exact ⟨c, hc.1, by omega, b, (mNs_replicate u I c 0 b).1 h3, h4⟩
      · rintro ⟨c, hc1, hc2, b, h3, h4⟩
        exact ⟨_, List.mem_map.2 ⟨c, List.mem_range'_1.2 ⟨hc1, by omega⟩, rfl⟩, b, (mNs_replicate u I c 0 b).2 h3, h4⟩
end Go.Proofs.YtmbkcmfcdjccoaaDoor
