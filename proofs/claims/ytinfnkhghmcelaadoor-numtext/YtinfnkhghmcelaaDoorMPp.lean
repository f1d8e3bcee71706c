/- Texts that belong together. -/
import Derived.Test.YtinfnkhghmcelaaDoorMDe
import Derived.Test.YtinfnkhghmcelaaDoorMQn
import Derived.Test.YtinfnkhghmcelaaDoorMHa
/- Texts of digits, as they are read. -/
namespace Go.Proofs.YtinfnkhghmcelaaDoor

def isD (b : UInt8) : Prop := 48 ≤ b.toNat ∧ b.toNat ≤ 57
/-- The number that digits say. -/
def valT (l : List UInt8) : Nat := l.foldl (fun N d => N * 10 + (d.toNat - 48)) 0
theorem foldT : ∀ (l : List UInt8) (N : Nat), l.foldl (fun N d => N * 10 + (d.toNat - 48)) N = N * 10 ^ l.length + valT l
  | [], N => by simp [valT]
  | d :: t, N => by
    unfold valT
    rw [List.foldl_cons, List.foldl_cons, foldT t, foldT t (0 * 10 + (d.toNat - 48)), List.length_cons, Nat.pow_succ, Nat.add_mul, Nat.zero_mul, Nat.zero_add, Nat.mul_assoc, Nat.mul_comm 10]
    omega
theorem valT_cons (d : UInt8) (t : List UInt8) : valT (d :: t) = (d.toNat - 48) * 10 ^ t.length + valT t := by
  show (d :: t).foldl _ 0 = _
  rw [List.foldl_cons, foldT]
  simp
theorem valT_append (a b : List UInt8) : valT (a ++ b) = valT a * 10 ^ b.length + valT b := by
  show (a ++ b).foldl _ 0 = _
  rw [List.foldl_append, foldT]
  rfl
theorem valT_lt : ∀ (l : List UInt8), (∀ b ∈ l, isD b) → valT l < 10 ^ l.length
  | [], _ => by simp [valT]
  | d :: t, h => by
    have h1 := valT_lt t (fun x hx => h x (by simp [hx]))
    have h2 := h d (by simp)
    unfold isD at h2
    rw [valT_cons, List.length_cons, Nat.pow_succ]
    have h3 : (d.toNat - 48) * 10 ^ t.length ≤ 9 * 10 ^ t.length := Nat.mul_le_mul_right _ (by omega)
    omega
/-- A row of digits is read whole, and adds its number. -/
theorem scan_row : ∀ (l rest ds : List UInt8) (p : Int) (n : Nat) (pt : Bool), (∀ b ∈ l, isD b) →
    ∃ ds', scanD (l ++ rest) ds p n pt = scanD rest ds' (if pt then p - l.length else p) (n + l.length) pt ∧ valD ds' = valD ds * 10 ^ l.length + valT l
  | [], rest, ds, p, n, pt, _ => ⟨ds, by simp, by simp [valT]⟩
  | b :: t, rest, ds, p, n, pt, h => by
    have hb := h b (by simp)
    unfold isD at hb
    obtain ⟨ds', h1, h2⟩ := scan_row t rest (if b.toNat ≠ 48 ∨ ds ≠ [] then ds ++ [UInt8.ofNat (b.toNat - 48)] else ds) (if pt then p - 1 else p) (n + 1) pt (fun x hx => h x (by simp [hx]))
    refine ⟨ds', ?_, ?_⟩
    · rw [List.cons_append, scanD, if_pos hb, h1]
      congr 1
      · cases pt
        · rfl
        · simp; omega
      · rw [List.length_cons]; omega
    · rw [h2, valT_cons, List.length_cons, Nat.pow_succ]
      have e : valD (if b.toNat ≠ 48 ∨ ds ≠ [] then ds ++ [UInt8.ofNat (b.toNat - 48)] else ds) = valD ds * 10 + (b.toNat - 48) := by
        split
        · rw [valD_snoc, UInt8.toNat_ofNat']
          congr 1
          omega
        · rename_i h9
          have h8 : b.toNat = 48 ∧ ds = [] := by
            constructor
            · exact Classical.byContradiction fun h7 => h9 (Or.inl h7)
            · exact Classical.byContradiction fun h7 => h9 (Or.inr h7)
          rw [h8.2, h8.1]
          rfl
      rw [e, Nat.add_mul, Nat.mul_assoc, Nat.mul_comm 10, Nat.add_assoc]
theorem scan_stop {b : UInt8} {t ds : List UInt8} {p : Int} {n : Nat} {pt : Bool} (h1 : ¬ (48 ≤ b.toNat ∧ b.toNat ≤ 57)) (h2 : ¬ (b.toNat = 46 ∧ pt = false)) : scanD (b :: t) ds p n pt = (ds, p, n, b :: t) := by
  rw [scanD, if_neg h1, if_neg h2]
theorem expF_row : ∀ (l : List UInt8) (n : Nat), (∀ b ∈ l, isD b) → n * 10 ^ l.length + valT l ≤ 1048576 → expF l n = some (n * 10 ^ l.length + valT l)
  | [], n, _, _ => by simp [expF, valT]
  | b :: t, n, h, hle => by
    have hb := h b (by simp)
    unfold isD at hb
    rw [valT_cons, List.length_cons, Nat.pow_succ] at hle ⊢
    have e : n * (10 ^ t.length * 10) + ((b.toNat - 48) * 10 ^ t.length + valT t) = (n * 10 + (b.toNat - 48)) * 10 ^ t.length + valT t := by
      rw [Nat.add_mul, Nat.mul_assoc, Nat.mul_comm 10, Nat.add_assoc]
    have hpos : 0 < 10 ^ t.length := Nat.pow_pos (by decide)
    have h3 : n * 10 + (b.toNat - 48) ≤ 1048576 := by
      have : (n * 10 + (b.toNat - 48)) * 1 ≤ (n * 10 + (b.toNat - 48)) * 10 ^ t.length := Nat.mul_le_mul_left _ hpos
      omega
    rw [expF, if_pos hb, Nat.min_eq_left h3, expF_row t _ (fun x hx => h x (by simp [hx])) (by omega), e]
/-- A sign or none, and digits. -/
theorem expR_plain {l : List UInt8} (h : ∀ b ∈ l, isD b) (hne : l ≠ []) (hle : valT l ≤ 1048576) : expR ⟨l.toArray⟩ = (((valT l : Nat) : Int), true) := by
  have hc : cutB ⟨l.toArray⟩ = (⟨l.toArray⟩, false) := by
    unfold cutB hdB
    cases l with
    | nil => exact absurd rfl hne
    | cons b t =>
      have hb := h b (by simp)
      unfold isD at hb
      rw [dif_pos (by simp [ByteArray.size])]
      have e : (⟨(b :: t).toArray⟩ : ByteArray)[0]'(by simp [ByteArray.size]) = b := rfl
      rw [e, if_neg (by omega)]
  unfold expR
  rw [hc]
  have hs : ¬ (⟨l.toArray⟩ : ByteArray).size = 0 := by
    cases l with
    | nil => exact absurd rfl hne
    | cons b t => simp [ByteArray.size]
  simp only
  rw [if_neg hs, expF_row l 0 h (by omega)]
  simp
theorem expR_minus {l : List UInt8} (h : ∀ b ∈ l, isD b) (hne : l ≠ []) (hle : valT l ≤ 1048576) : expR ⟨(45 :: l).toArray⟩ = (-((valT l : Nat) : Int), true) := by
  have hc : cutB ⟨(45 :: l).toArray⟩ = (⟨l.toArray⟩, true) := by
    unfold cutB hdB
    rw [dif_pos (by simp [ByteArray.size])]
    have e : (⟨(45 :: l).toArray⟩ : ByteArray)[0]'(by simp [ByteArray.size]) = 45 := rfl
    have e2 : (45 : UInt8).toNat = 45 := rfl
    rw [e, e2, if_pos (Or.inl rfl)]
    congr 1
    apply ByteArray.ext
    simp [ByteArray.size]
  unfold expR
  rw [hc]
  have hs : ¬ (⟨l.toArray⟩ : ByteArray).size = 0 := by
    cases l with
    | nil => exact absurd rfl hne
    | cons b t => simp [ByteArray.size]
  simp only
  rw [if_neg hs, expF_row l 0 h (by omega)]
  simp

theorem ba_of (l : List UInt8) : (⟨l.toArray⟩ : ByteArray).data.toList = l := by simp
/-- A text that begins with a digit is cut nowhere, and is no word. -/
theorem parse_digit {b : UInt8} {t : List UInt8} (hb : isD b) (hl : t.length < 400) : parseR ⟨(b :: t).toArray⟩ = match decR ⟨(b :: t).toArray⟩ with
    | none => (0, 8)
    | some (ds, p) => (nearN ds p, 0) := by
  unfold isD at hb
  have hc : cutB ⟨(b :: t).toArray⟩ = (⟨(b :: t).toArray⟩, false) := by
    unfold cutB hdB
    rw [dif_pos (by simp [ByteArray.size])]
    have e : (⟨(b :: t).toArray⟩ : ByteArray)[0]'(by simp [ByteArray.size]) = b := rfl
    rw [e, if_neg (by omega)]
  have hlow : low b = b := by unfold low; rw [if_neg (by omega)]
  unfold parseR
  have hsz : ¬ 400 < (⟨(b :: t).toArray⟩ : ByteArray).size := by simp [ByteArray.size]; omega
  rw [if_neg hsz, hc]
  have hm : (⟨(b :: t).toArray⟩ : ByteArray).data.toList.map low = b :: t.map low := by rw [ba_of, List.map_cons, hlow]
  show (if (⟨(b :: t).toArray⟩ : ByteArray).data.toList.map low = [110, 97, 110] then _ else _) = _
  rw [hm]
  generalize t.map low = tl
  have n1 : ∀ x : UInt8, 97 ≤ x.toNat → b ≠ x := fun x hx e => by subst e; omega
  rw [if_neg (fun h => n1 110 (by decide) (List.cons.inj h).1), if_neg (fun h => h.elim (fun h => n1 105 (by decide) (List.cons.inj h).1) (fun h => n1 105 (by decide) (List.cons.inj h).1))]
  have sg : ∀ n, sgB false n = n := fun n => rfl
  simp only [sg]
  cases decR ⟨(b :: t).toArray⟩ with
  | none => rfl
  | some x => rfl
/-- Digits, the letter e, a whole number. -/
theorem decR_whole {x k : List UInt8} {e : Int} (hx : ∀ b ∈ x, isD b) (hne : x ≠ []) (hk : expR ⟨k.toArray⟩ = (e, true)) : ∃ ds, decR ⟨(x ++ 101 :: k).toArray⟩ = some (ds, e) ∧ valD ds = valT x ∧ GoodD ds := by
  obtain ⟨ds, h1, h2⟩ := scan_row x (101 :: k) [] 0 0 false hx
  rw [scan_stop (by decide) (by decide)] at h1
  have hg := scan_good (x ++ 101 :: k) [] 0 0 false ⟨by simp, by simp⟩
  rw [h1] at hg
  refine ⟨ds, ?_, by rw [h2]; simp [valD], hg.1⟩
  unfold decR
  rw [ba_of, h1]
  have hl : 0 < x.length := List.length_pos_iff.2 hne
  have h0 : ¬ (0 + x.length = 0) := by omega
  have h101 : (101 : UInt8).toNat = 101 := rfl
  simp only [if_neg h0, h101, true_or, if_true, hk, Bool.false_eq_true, if_false]
  simp
/-- Digits, a point, digits, the letter e, a whole number. -/
theorem decR_point {x y k : List UInt8} {e : Int} (hx : ∀ b ∈ x, isD b) (hy : ∀ b ∈ y, isD b) (hne : x ≠ []) (hk : expR ⟨k.toArray⟩ = (e, true)) : ∃ ds, decR ⟨(x ++ 46 :: (y ++ 101 :: k)).toArray⟩ = some (ds, e - y.length) ∧ valD ds = valT (x ++ y) ∧ GoodD ds := by
  obtain ⟨d1, h1, h2⟩ := scan_row x (46 :: (y ++ 101 :: k)) [] 0 0 false hx
  obtain ⟨ds, h3, h4⟩ := scan_row y (101 :: k) d1 0 (0 + x.length) true hy
  have h5 : scanD (46 :: (y ++ 101 :: k)) d1 0 (0 + x.length) false = scanD (y ++ 101 :: k) d1 0 (0 + x.length) true := by
    rw [scanD, if_neg (by decide), if_pos (by decide)]
  rw [scan_stop (by decide) (by decide)] at h3
  simp only [Bool.false_eq_true, if_false] at h1
  rw [h5, h3] at h1
  have hg := scan_good (x ++ 46 :: (y ++ 101 :: k)) [] 0 0 false ⟨by simp, by simp⟩
  rw [h1] at hg
  refine ⟨ds, ?_, by rw [h4, h2, valT_append]; simp [valD], hg.1⟩
  unfold decR
  rw [ba_of, h1]
  have hl : 0 < x.length := List.length_pos_iff.2 hne
  have h0 : ¬ (0 + x.length + y.length = 0) := by omega
  have h101 : (101 : UInt8).toNat = 101 := rfl
  simp only [if_neg h0, h101, true_or, if_true, hk]
  congr 2
  omega
end Go.Proofs.YtinfnkhghmcelaaDoor

/- Numbers as rows of decimal digits, the lowest first (pure); append of a number. -/
namespace Go.Proofs.YtinfnkhghmcelaaDoor
open Go.RowKit Go.Maps

def valL : List Nat → Nat
  | [] => 0
  | d :: t => d + 10 * valL t
theorem valL_append (a b : List Nat) : valL (a ++ b) = valL a + 10 ^ a.length * valL b := by
  induction a with
  | nil => simp [valL]
  | cons d t ih =>
    rw [List.cons_append, valL, valL, ih, List.length_cons, Nat.pow_succ, Nat.mul_add, Nat.mul_comm (10 ^ t.length) 10, Nat.mul_assoc, Nat.add_assoc]
theorem valL_snoc (a : List Nat) (d : Nat) : valL (a ++ [d]) = valL a + 10 ^ a.length * d := by
  rw [valL_append]
  simp [valL]
theorem valL_take {ds : List Nat} {k : Nat} (h : k < ds.length) : valL (ds.take (k + 1)) = valL (ds.take k) + 10 ^ k * ds[k] := by
  rw [List.take_succ_eq_append_getElem h, valL_snoc, List.length_take, Nat.min_eq_left (by omega)]
/-- The text of such a row. -/
def txtL (ds : List Nat) : List UInt8 := ds.reverse.map fun d => UInt8.ofNat (48 + d)
theorem txtL_cons (d : Nat) (t : List Nat) : txtL (d :: t) = txtL t ++ [UInt8.ofNat (48 + d)] := by simp [txtL]
theorem byte_dig {d : Nat} (h : d < 10) : (UInt8.ofNat (48 + d)).toNat = 48 + d := by rw [UInt8.toNat_ofNat']; omega
theorem txtL_dig {ds : List Nat} (h : ∀ d ∈ ds, d < 10) : ∀ b ∈ txtL ds, isD b := fun b hb => by
  unfold txtL at hb
  obtain ⟨d, hd, rfl⟩ := List.mem_map.1 hb
  have h1 := h d (List.mem_reverse.1 hd)
  unfold isD
  rw [byte_dig h1]
  omega
theorem txtL_val : ∀ {ds : List Nat}, (∀ d ∈ ds, d < 10) → valT (txtL ds) = valL ds
  | [], _ => rfl
  | d :: t, h => by
    have h1 := h d (by simp)
    have ih := txtL_val (ds := t) (fun x hx => h x (by simp [hx]))
    rw [txtL_cons, valL, ← ih]
    unfold valT
    rw [List.foldl_append]
    simp only [List.foldl_cons, List.foldl_nil]
    rw [byte_dig h1]
    omega
theorem txtL_length (ds : List Nat) : (txtL ds).length = ds.length := by simp [txtL]

/-- append of one number. -/
theorem wpList_append_int (w : World) {ops : Array Oper} {rest : List Oper} {o : Oper} {a : Act} {Q : Exit → Act → World → Prop} (hgd : o.guard = none) (s x : Operand)
    (ho : o.op = .call { callee := .builtin .append, args := #[s, x], argTypes := #[52, 52] }) (base : Nat) (ao : Option Addr) (n co : Nat) (es : List Nat) (hs : a.eval s = .slice ao n co) (hrow : w.ownsRow base 3 1 (.slice ao n co) n (i64s es))
    (g : Nat) (z : Int) (y : Nat) (hzy : z = (y : Int)) (hx : a.eval x = .slice (some ⟨g, 0, none⟩) 1 1) (hg : w.heap[g]? = some (.cells #[.int .i64 z] 3 (0, 0))) (hl : n ≤ 100000) (hbase : base ≤ w.heap.size)
    (h : ∀ a' c' w', w'.ownsRow base 3 1 (.slice a' (n + 1) c') (n + 1) (i64s (es ++ [y])) → w.grownBy w' (Value.slice ao n co).ownBlock → wpList Tryd.prog ops Q rest (a.put o.dst (.slice a' (n + 1) c')) w') : wpList Tryd.prog ops Q (o :: rest) a w := by
  subst hzy
  obtain ⟨i0, hi0, hz0, hz1, hz2⟩ := info_parts infoI64
  refine wpList_append_own_at w hgd s x 52 ho base 3 i0 _ 1 8 Tryd.underlying52 hi0 hz0 hz1 hz2 rfl (by decide) (.slice ao n co) n (i64s es) hs hrow ⟨g, 0, none⟩ 1 1 [.int .i64 (y : Nat)] hx rfl (World.news_of_block (cs := #[.int .i64 (y : Nat)]) (t := 3) (fr := (0, 0)) hg) (by simp [Value.oneCell']) (by unfold maxLen; omega) (by omega) hbase ?_
  intro v1 w1 hr1 hg1 hnil1 hloc1
  obtain ⟨a1, c1, rfl⟩ := slice_of_row hr1
  refine h a1 c1 w1 ?_ hg1
  rw [i64s_append]
  exact hr1
/-- A row of numbers of one's own: where it lies, and what its cells hold. -/
theorem row_at {w : World} {base n c : Nat} {a : Option Addr} {es : List Nat} (h : w.ownsRow base 3 1 (.slice a n c) n (i64s es)) (hn : n = es.length) {k : Nat} (hk : k < n) : ∃ g, a = some ⟨g, 0, none⟩ ∧ base ≤ g ∧ w.cell? ⟨g, k, none⟩ = some (.int .i64 (es.getD k 0 : Nat)) ∧ w.frozen? ⟨g, k, none⟩ = false := by
  rcases h.2 with ⟨e, _⟩ | ⟨g, cap, cur, e, hlo, hg, _⟩
  · cases e
    omega
  · injection e with e1 e2 e3
    subst e1
    refine ⟨g, rfl, hlo, ?_, (row_cell h (by omega)).2⟩
    have hc := h.cells (g := g) rfl k (.int .i64 (es.getD k 0 : Nat)) (by
      unfold i64s
      rw [List.getElem?_map, List.getElem?_eq_getElem (by omega), List.getD_eq_getElem?_getD, List.getElem?_eq_getElem (by omega)]
      rfl)
    rw [Addr.add_lit, Nat.zero_add] at hc
    exact hc
theorem i64s_set (es : List Nat) (k y : Nat) : (i64s es).set k (.int .i64 (y : Nat)) = i64s (es.set k y) := by simp [i64s, List.map_set]
end Go.Proofs.YtinfnkhghmcelaaDoor
