/- A quoted text, read: pure. -/
import Derived.Test.YtmbkcmfcdjccoaaDoorMP53
namespace Go.Proofs.YtmbkcmfcdjccoaaDoor
open Go.RowKit Go.Maps

/-- A byte, quoted. -/
def qB (b : UInt8) : List UInt8 := if b = 10 then [92, 110] else if b = 9 then [92, 116] else if b = 13 then [92, 114] else if specB b = true then [92, b] else [b]
/-- A text, quoted. -/
def quL (l : List UInt8) : List UInt8 := l.flatMap qB
/-- A character, quoted. -/
def qC (c : Nat) : List UInt8 := quL (chB c)
def chkQ (b : UInt8) : Bool := match qB b with
  | [x] => x == b && !specB b
  | [x, e] => x == 92 && (letS e).isNone && escB e == some (b.toNat : Int)
  | _ => false
theorem chk_all : (List.range 256).all (fun n => chkQ n.toUInt8) = true := by kernel_rfl
theorem chk_q (b : UInt8) : (qB b = [b] ∧ specB b = false) ∨ ∃ e, qB b = [92, e] ∧ letS e = none ∧ escB e = some (b.toNat : Int) := by
  have h := List.all_eq_true.1 chk_all b.toNat (by rw [List.mem_range]; exact b.toNat_lt)
  have hb : b.toNat.toUInt8 = b := by simp
  rw [hb] at h
  unfold chkQ at h
  split at h
  · rename_i x hx
    rw [Bool.and_eq_true] at h
    obtain ⟨h1, h2⟩ := h
    rw [eq_of_beq h1] at hx
    exact Or.inl ⟨hx, by simpa using h2⟩
  · rename_i x e hx
    rw [Bool.and_eq_true, Bool.and_eq_true] at h
    obtain ⟨⟨h1, h2⟩, h3⟩ := h
    rw [eq_of_beq h1] at hx
    exact Or.inr ⟨e, hx, by simpa using h2, eq_of_beq h3⟩
  · cases h
/-- No repeat, no alternative, no end of a group is at the head. -/
def CalmQ (l : List UInt8) : Prop := ∀ h, l.head? = some h → h = 92 ∨ specB h = false
theorem qB_head (b : UInt8) : ∃ h t, qB b = h :: t ∧ (h = 92 ∨ specB h = false) := by
  rcases chk_q b with ⟨h1, h2⟩ | ⟨e, h1, h2, h3⟩
  · exact ⟨b, [], h1, Or.inr h2⟩
  · exact ⟨92, [e], h1, Or.inl rfl⟩
theorem qC_head {c : Nat} (h : ChF c) : ∃ x t, qC c = x :: t ∧ (x = 92 ∨ specB x = false) := by
  have hp := h.pos
  unfold qC quL
  cases hk : chB c with
  | nil => rw [hk] at hp; exact absurd hp (by decide)
  | cons b t =>
    obtain ⟨x, u, h1, h2⟩ := qB_head b
    exact ⟨x, u ++ t.flatMap qB, by rw [List.flatMap_cons, h1]; rfl, h2⟩
theorem calm_q {cs : List Nat} (h : ∀ c ∈ cs, ChF c) : CalmQ (cs.flatMap qC) := by
  intro x hx
  cases cs with
  | nil => cases hx
  | cons c t =>
    obtain ⟨y, u, h1, h2⟩ := qC_head (h c (by simp))
    rw [List.flatMap_cons, h1] at hx
    have hx : some y = some x := hx
    injection hx with hx
    rw [← hx]
    exact h2
theorem calm_sees {s : ByteArray} {i : Nat} {l : List UInt8} {x : UInt8} (h : s.data.toList.drop i = l) (hl : CalmQ l) (hx : specB x = true) (hn : x ≠ 92) : seesB s i x = false := by
  cases l with
  | nil =>
    unfold seesB
    have : s.data.toList[i]? = none := by
      rw [← Nat.add_zero i, ← List.getElem?_drop, h]
      rfl
    rw [this]
    rfl
  | cons b t =>
    rw [sees_at h]
    have hb : b ≠ x := fun e => by
      subst e
      rcases hl b rfl with h1 | h1
      · exact hn h1
      · rw [hx] at h1
        cases h1
    simpa using hb
/-- A step that takes one character. -/
def takN (c : Nat) : Nd := .take [((c : Int), (c : Int))] false
def takT (c : Nat) : Stp := .take [((c : Int), (c : Int))] false
theorem thing_q {s : ByteArray} {i c g n : Nat} {rest : List UInt8} (hc : ChF c) (h : s.data.toList.drop i = qC c ++ rest) : thingR s (n + 1) i g = .yes (takN c) (i + (qC c).length) g := by
  rw [thing_one]
  have hcalm : CalmQ (qC c ++ rest) := fun x hx => by
    obtain ⟨y, u, h1, h2⟩ := qC_head hc
    rw [h1] at hx
    have hx : some y = some x := hx
    injection hx with hx
    rw [← hx]
    exact h2
  have hplain : ∀ b t, chB c = b :: t → qC c = chB c → specB b = false → seesB s i 92 = false ∧ ((s.data.toList[i]?).map specB).getD false = false ∧ charR s i = (c, (qC c).length) := fun b t h1 h2 h3 => by
    rw [h2, h1] at h
    have hd : s.data.toList.drop i = b :: (t ++ rest) := h
    obtain ⟨e1, e2, e3⟩ := at_drop hd
    refine ⟨?_, ?_, ?_⟩
    · rw [sees_at hd]
      have : b ≠ 92 := fun e => by subst e; exact absurd h3 (by decide)
      simpa using this
    · rw [e1]
      exact h3
    · rw [charR_drop e2, hd, h2]
      have := hc.dec rest
      rw [h1] at this
      rw [h1]
      exact this
  have hfin : ∀ b t, chB c = b :: t → qC c = chB c → specB b = false → (if seesB s i 40 = true then bracketR s n (i + 1) g
    else if seesB s i 91 = true then (match classR s (i + 1) with | .no p => .no p | .yes (l, neg) p => .yes (.take l neg) p g)
    else if seesB s i 46 = true then .yes (.take [(0, maxR)] false) (i + 1) g
    else if seesB s i 92 = true then (match escR s (i + 1) with | .no p => .no p | .yes (l, _) p => .yes (.take l false) p g)
    else if ((s.data.toList[i]?).map specB).getD false = true then .no i
    else .yes (.take [((charR s i).1, (charR s i).1)] false) (i + (charR s i).2) g) = .yes (takN c) (i + (qC c).length) g := fun b t h1 h2 h3 => by
    obtain ⟨k1, k2, k3⟩ := hplain b t h1 h2 h3
    rw [calm_sees h hcalm (by decide) (by decide), calm_sees h hcalm (by decide) (by decide), calm_sees h hcalm (by decide) (by decide), k1, k2, k3]
    rfl
  rcases hc.low with ⟨b, hb, hv, hlt⟩ | hb
  · have hq : qC c = qB b := by unfold qC quL; rw [hb]; simp
    rcases chk_q b with ⟨h1, h2⟩ | ⟨e, h1, h2, h3⟩
    · exact hfin b [] hb (by rw [hq, h1, hb]) h2
    · rw [hq, h1] at h
      have hd : s.data.toList.drop i = 92 :: (e :: rest) := h
      have hd1 := (at_drop hd).2.2
      have he : escR s (i + 1) = .yes ([((c : Int), (c : Int))], true) (i + 1 + 1) := by
        unfold escR
        rw [(at_drop hd1).1]
        simp only [h2, h3, hv]
      rw [sees_at hd, sees_at hd, sees_at hd, sees_at hd, he, hq, h1]
      rfl
  · have hq : ∀ l : List UInt8, (∀ b ∈ l, 128 ≤ b.toNat) → quL l = l ∧ ∀ b ∈ l, specB b = false := fun l => by
      induction l with
      | nil => exact fun _ => ⟨rfl, fun b h => by cases h⟩
      | cons b t ih =>
        intro hl
        obtain ⟨h1, h2⟩ := ih (fun x hx => hl x (by simp [hx]))
        have h3 := hl b (by simp)
        rcases chk_q b with ⟨h4, h5⟩ | ⟨e, h4, h5, h6⟩
        · refine ⟨by unfold quL at h1 ⊢; rw [List.flatMap_cons, h4, h1]; rfl, fun x hx => ?_⟩
          rcases List.mem_cons.1 hx with rfl | hx
          · exact h5
          · exact h2 x hx
        · exfalso
          unfold qB at h4
          have hne : ∀ k : UInt8, k.toNat < 128 → b ≠ k := fun k hk e => by subst e; omega
          have hsp : specB b = false := by
            unfold specB
            simp [hne]
          rw [if_neg (hne _ (by decide)), if_neg (hne _ (by decide)), if_neg (hne _ (by decide)), if_neg (by rw [hsp]; decide)] at h4
          cases h4
    obtain ⟨h1, h2⟩ := hq _ hb
    have hp := hc.pos
    cases hk : chB c with
    | nil => rw [hk] at hp; exact absurd hp (by decide)
    | cons b t => exact hfin b t hk h1 (h2 b (by rw [hk]; simp))
theorem part_q {s : ByteArray} {i c g n : Nat} {rest : List UInt8} (hc : ChF c) (h : s.data.toList.drop i = qC c ++ rest) (hr : CalmQ rest) : partR s (n + 2) i g = .yes (takN c) (i + (qC c).length) g := by
  have hcalm : CalmQ (qC c ++ rest) := fun x hx => by
    obtain ⟨y, u, h1, h2⟩ := qC_head hc
    rw [h1] at hx
    have hx : some y = some x := hx
    injection hx with hx
    rw [← hx]
    exact h2
  have hd : s.data.toList.drop (i + (qC c).length) = rest := by
    rw [← List.drop_drop, h]
    simp
  rw [part_one, if_neg (by rw [calm_sees h hcalm (by decide) (by decide)]; decide), if_neg (by rw [calm_sees h hcalm (by decide) (by decide)]; decide), thing_q hc h]
  have hrep : repR s (takN c) (i + (qC c).length) = .yes (takN c) (i + (qC c).length) := repR_none _ (calm_sees hd hr (by decide) (by decide)) (calm_sees hd hr (by decide) (by decide)) (calm_sees hd hr (by decide) (by decide)) (calm_sees hd hr (by decide) (by decide))
  show (match repR s (takN c) (i + (qC c).length) with | .no q => Pt.no q | .yes y q => .yes y q g) = _
  rw [hrep]
theorem row_q {s : ByteArray} {g : Nat} : ∀ (cs : List Nat) (n i : Nat) (acc : List Nd), i ≤ s.size → s.data.toList.drop i = cs.flatMap qC → (∀ c ∈ cs, ChF c) → rowR s (n + 3 + cs.length) i g acc = .yes (.row (acc ++ cs.map takN)) s.size g
  | [], n, i, acc, hi, h, _ => by
    have hl := congrArg List.length h
    rw [List.length_drop, ← Lib.size_eq] at hl
    have hl : s.size - i = 0 := hl
    have : i = s.size := by omega
    subst this
    rw [show n + 3 + ([] : List Nat).length = (n + 2) + 1 from rfl, row_one, if_pos (Or.inl (Nat.le_refl _))]
    simp
  | c :: t, n, i, acc, hi, h, hc => by
    have h1 := hc c (by simp)
    have h' : s.data.toList.drop i = qC c ++ t.flatMap qC := h
    have hcalm := calm_q hc
    have hct : CalmQ (t.flatMap qC) := calm_q (fun x hx => hc x (by simp [hx]))
    obtain ⟨y, u, e1, e2⟩ := qC_head h1
    have hl := congrArg List.length h'
    rw [List.length_drop, ← Lib.size_eq, List.length_append] at hl
    have hpos : 0 < (qC c).length := by rw [e1]; simp
    have hd : s.data.toList.drop (i + (qC c).length) = t.flatMap qC := by
      rw [← List.drop_drop, h']
      simp
    rw [show n + 3 + (c :: t).length = (n + 3 + t.length) + 1 by simp [Nat.add_assoc], row_one, if_neg (fun h9 => by
      rcases h9 with h9 | h9 | h9
      · omega
      · rw [calm_sees h hcalm (by decide) (by decide)] at h9; cases h9
      · rw [calm_sees h hcalm (by decide) (by decide)] at h9; cases h9)]
    rw [show n + 3 + t.length = (n + 1 + t.length) + 2 by omega, part_q h1 h' hct]
    show rowR s (n + 1 + t.length + 2) (i + (qC c).length) g (acc ++ [takN c]) = _
    rw [show n + 1 + t.length + 2 = n + 3 + t.length by omega, row_q t n (i + (qC c).length) (acc ++ [takN c]) (by omega) hd (fun x hx => hc x (by simp [hx]))]
    simp
theorem tak_size : ∀ (cs : List Nat) (n : Int), sizesN (cs.map takN) n ≤ n + cs.length
  | [], n => by simp [sizesN]
  | c :: t, n => by
    have ih := tak_size t (capN (n + 1))
    have h1 : capN (n + 1) ≤ n + 1 := by unfold capN; omega
    have h2 : sizesN ((c :: t).map takN) n = sizesN (t.map takN) (capN (n + 1)) := by simp [sizesN, takN, sizeN]
    rw [h2, List.length_cons]
    omega
theorem qC_len (cs : List Nat) (h : ∀ c ∈ cs, ChF c) : cs.length ≤ (cs.flatMap qC).length := by
  induction cs with
  | nil => exact Nat.le_refl _
  | cons c t ih =>
    obtain ⟨y, u, e1, e2⟩ := qC_head (h c (by simp))
    have := ih (fun x hx => h x (by simp [hx]))
    rw [List.flatMap_cons, List.length_append, List.length_cons, e1, List.length_cons]
    omega
/-- What a quoted text is read as. -/
theorem quote_comp {s : ByteArray} {cs : List Nat} (hc : ∀ c ∈ cs, ChF c) (hs : s.size ≤ 256) (h : s.data.toList = cs.flatMap qC) : compR s = .ok (.row (cs.map takN)) 0 := by
  have hl := qC_len cs hc
  rw [← h, ← Lib.size_eq] at hl
  have he : readS s = .yes (.row (cs.map takN)) s.size 0 := by
    unfold readS
    rw [show 5 * s.size + 2 = (5 * s.size + 1) + 1 from rfl, either_one]
    by_cases h0 : s.size = 0
    · have hcs : cs = [] := by
        cases cs with
        | nil => rfl
        | cons c t => simp at hl; omega
      subst hcs
      rw [h0, row_one, if_pos (Or.inl (by omega))]
      show (if seesB s 0 124 = false then _ else _) = _
      have := sees_end s 124
      rw [h0] at this
      rw [if_pos this]
      rfl
    · rw [show 5 * s.size + 1 = (5 * s.size - 2 - cs.length) + 3 + cs.length by omega, row_q cs _ 0 [] (Nat.zero_le _) h hc]
      show (if seesB s s.size 124 = false then _ else _) = _
      rw [if_pos (sees_end s 124)]
      rfl
  have hz := tak_size cs 0
  unfold compR
  rw [if_neg (by omega), he]
  show (if s.size < s.size then _ else if 2000 < sizeN (.row (cs.map takN)) + 1 then _ else _) = _
  rw [if_neg (Nat.lt_irrefl _), if_neg (by simp only [sizeN]; omega)]
theorem emit_tak : ∀ (cs : List Nat) (p : Nat), emitsN (cs.map takN) p = cs.map takT
  | [], p => by simp [emitsN]
  | c :: t, p => by
    have := emit_tak t (p + 1)
    simp only [List.map_cons, emitsN, takN, emitN, List.length_singleton] at this ⊢
    rw [this]
    rfl
theorem quote_prog (cs : List Nat) : progR (.row (cs.map takN)) = cs.map takT ++ [.yes] := by
  unfold progR
  simp only [emitN]
  rw [emit_tak]
end Go.Proofs.YtmbkcmfcdjccoaaDoor
