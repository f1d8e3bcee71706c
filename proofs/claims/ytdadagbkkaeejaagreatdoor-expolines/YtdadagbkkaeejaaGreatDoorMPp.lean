/- Texts that belong together. -/
import Derived.Test.YtdadagbkkaeejaaGreatDoorMDg
import Derived.Test.YtdadagbkkaeejaaGreatDoorMQn
import Derived.Shelf.Lays
import Derived.Shelf.Strings.Builder1
import Derived.KernelRfl
import Derived.Test.YtdadagbkkaeejaaGreatDoorSn
/- Texts of digits, as they are read. -/
namespace Go.Proofs.YtdadagbkkaeejaaGreatDoor.Nu

def isD (b : UInt8) : Prop := 48 ≤ b.toNat ∧ b.toNat ≤ 57
/-- The number that digits say. -/
def valT (l : List UInt8) : Nat := l.foldl (fun N d => N * 10 + (d.toNat - 48)) 0
theorem foldT : ∀ (l : List UInt8) (N : Nat), l.foldl (fun N d => N * 10 + (d.toNat - 48)) N = N * 10 ^ l.length + valT l
  | [], N => by simp [valT]
  | d :: t, N => by
    unfold valT
    rw [List.foldl_cons, List.foldl_cons, foldT t, foldT t (0 * 10 + (d.toNat - 48)), List.length_cons, Nat.pow_succ, Nat.add_mul, Nat.zero_mul, Nat.zero_add, Nat.mul_assoc, Nat.mul_comm 10]
    omega
theorem valT_cons (d : UInt8) (t : List UInt8) : valT (d :: t) = (d.toNat - 48) * 10 ^ t.length + valT t := by
  show (d :: t).foldl _ 0 = _
  rw [List.foldl_cons, foldT]
  simp
theorem valT_append (a b : List UInt8) : valT (a ++ b) = valT a * 10 ^ b.length + valT b := by
  show (a ++ b).foldl _ 0 = _
  rw [List.foldl_append, foldT]
  rfl
theorem valT_lt : ∀ (l : List UInt8), (∀ b ∈ l, isD b) → valT l < 10 ^ l.length
  | [], _ => by simp [valT]
  | d :: t, h => by
    have h1 := valT_lt t (fun x hx => h x (by simp [hx]))
    have h2 := h d (by simp)
    unfold isD at h2
    rw [valT_cons, List.length_cons, Nat.pow_succ]
    have h3 : (d.toNat - 48) * 10 ^ t.length ≤ 9 * 10 ^ t.length := Nat.mul_le_mul_right _ (by omega)
    omega
/-- A row of digits is read whole, and adds its number. -/
theorem scan_row : ∀ (l rest ds : List UInt8) (p : Int) (n : Nat) (pt : Bool), (∀ b ∈ l, isD b) →
    ∃ ds', scanD (l ++ rest) ds p n pt = scanD rest ds' (if pt then p - l.length else p) (n + l.length) pt ∧ valD ds' = valD ds * 10 ^ l.length + valT l
  | [], rest, ds, p, n, pt, _ => ⟨ds, by simp, by simp [valT]⟩
  | b :: t, rest, ds, p, n, pt, h => by
    have hb := h b (by simp)
    unfold isD at hb
    obtain ⟨ds', h1, h2⟩ := scan_row t rest (if b.toNat ≠ 48 ∨ ds ≠ [] then ds ++ [UInt8.ofNat (b.toNat - 48)] else ds) (if pt then p - 1 else p) (n + 1) pt (fun x hx => h x (by simp [hx]))
    refine ⟨ds', ?_, ?_⟩
    · rw [List.cons_append, scanD, if_pos hb, h1]
      congr 1
      · cases pt
        · rfl
        · simp; omega
      · rw [List.length_cons]; omega
    · rw [h2, valT_cons, List.length_cons, Nat.pow_succ]
      have e : valD (if b.toNat ≠ 48 ∨ ds ≠ [] then ds ++ [UInt8.ofNat (b.toNat - 48)] else ds) = valD ds * 10 + (b.toNat - 48) := by
        split
        · rw [valD_snoc, UInt8.toNat_ofNat']
          congr 1
          omega
        · rename_i h9
          have h8 : b.toNat = 48 ∧ ds = [] := by
            constructor
            · exact Classical.byContradiction fun h7 => h9 (Or.inl h7)
            · exact Classical.byContradiction fun h7 => h9 (Or.inr h7)
          rw [h8.2, h8.1]
          rfl
      rw [e, Nat.add_mul, Nat.mul_assoc, Nat.mul_comm 10, Nat.add_assoc]
theorem scan_stop {b : UInt8} {t ds : List UInt8} {p : Int} {n : Nat} {pt : Bool} (h1 : ¬ (48 ≤ b.toNat ∧ b.toNat ≤ 57)) (h2 : ¬ (b.toNat = 46 ∧ pt = false)) : scanD (b :: t) ds p n pt = (ds, p, n, b :: t) := by
  rw [scanD, if_neg h1, if_neg h2]
theorem expF_row : ∀ (l : List UInt8) (n : Nat), (∀ b ∈ l, isD b) → n * 10 ^ l.length + valT l ≤ 1048576 → expF l n = some (n * 10 ^ l.length + valT l)
  | [], n, _, _ => by simp [expF, valT]
  | b :: t, n, h, hle => by
    have hb := h b (by simp)
    unfold isD at hb
    rw [valT_cons, List.length_cons, Nat.pow_succ] at hle ⊢
    have e : n * (10 ^ t.length * 10) + ((b.toNat - 48) * 10 ^ t.length + valT t) = (n * 10 + (b.toNat - 48)) * 10 ^ t.length + valT t := by
      rw [Nat.add_mul, Nat.mul_assoc, Nat.mul_comm 10, Nat.add_assoc]
    have hpos : 0 < 10 ^ t.length := Nat.pow_pos (by decide)
    have h3 : n * 10 + (b.toNat - 48) ≤ 1048576 := by
      have : (n * 10 + (b.toNat - 48)) * 1 ≤ (n * 10 + (b.toNat - 48)) * 10 ^ t.length := Nat.mul_le_mul_left _ hpos
      omega
    rw [expF, if_pos hb, Nat.min_eq_left h3, expF_row t _ (fun x hx => h x (by simp [hx])) (by omega), e]
/-- A sign or none, and digits. -/
theorem expR_plain {l : List UInt8} (h : ∀ b ∈ l, isD b) (hne : l ≠ []) (hle : valT l ≤ 1048576) : expR ⟨l.toArray⟩ = (((valT l : Nat) : Int), true) := by
  have hc : cutB ⟨l.toArray⟩ = (⟨l.toArray⟩, false) := by
    unfold cutB hdB
    cases l with
    | nil => exact absurd rfl hne
    | cons b t =>
      have hb := h b (by simp)
      unfold isD at hb
      rw [dif_pos (by simp [ByteArray.size])]
      have e : (⟨(b :: t).toArray⟩ : ByteArray)[0]'(by simp [ByteArray.size]) = b := rfl
      rw [e, if_neg (by omega)]
  unfold expR
  rw [hc]
  have hs : ¬ (⟨l.toArray⟩ : ByteArray).size = 0 := by
    cases l with
    | nil => exact absurd rfl hne
    | cons b t => simp [ByteArray.size]
  simp only
  rw [if_neg hs, expF_row l 0 h (by omega)]
  simp
theorem expR_minus {l : List UInt8} (h : ∀ b ∈ l, isD b) (hne : l ≠ []) (hle : valT l ≤ 1048576) : expR ⟨(45 :: l).toArray⟩ = (-((valT l : Nat) : Int), true) := by
  have hc : cutB ⟨(45 :: l).toArray⟩ = (⟨l.toArray⟩, true) := by
    unfold cutB hdB
    rw [dif_pos (by simp [ByteArray.size])]
    have e : (⟨(45 :: l).toArray⟩ : ByteArray)[0]'(by simp [ByteArray.size]) = 45 := rfl
    have e2 : (45 : UInt8).toNat = 45 := rfl
    rw [e, e2, if_pos (Or.inl rfl)]
    congr 1
    apply ByteArray.ext
    simp [ByteArray.size]
  unfold expR
  rw [hc]
  have hs : ¬ (⟨l.toArray⟩ : ByteArray).size = 0 := by
    cases l with
    | nil => exact absurd rfl hne
    | cons b t => simp [ByteArray.size]
  simp only
  rw [if_neg hs, expF_row l 0 h (by omega)]
  simp

theorem ba_of (l : List UInt8) : (⟨l.toArray⟩ : ByteArray).data.toList = l := by simp
/-- A text that begins with a digit is cut nowhere, and is no word. -/
theorem parse_digit {b : UInt8} {t : List UInt8} (hb : isD b) (hl : t.length < 400) : parseR ⟨(b :: t).toArray⟩ = match decR ⟨(b :: t).toArray⟩ with
    | none => (0, 8)
    | some (ds, p) => (nearN ds p, 0) := by
  unfold isD at hb
  have hc : cutB ⟨(b :: t).toArray⟩ = (⟨(b :: t).toArray⟩, false) := by
    unfold cutB hdB
    rw [dif_pos (by simp [ByteArray.size])]
    have e : (⟨(b :: t).toArray⟩ : ByteArray)[0]'(by simp [ByteArray.size]) = b := rfl
    rw [e, if_neg (by omega)]
  have hlow : low b = b := by unfold low; rw [if_neg (by omega)]
  unfold parseR
  have hsz : ¬ 400 < (⟨(b :: t).toArray⟩ : ByteArray).size := by simp [ByteArray.size]; omega
  rw [if_neg hsz, hc]
  have hm : (⟨(b :: t).toArray⟩ : ByteArray).data.toList.map low = b :: t.map low := by rw [ba_of, List.map_cons, hlow]
  show (if (⟨(b :: t).toArray⟩ : ByteArray).data.toList.map low = [110, 97, 110] then _ else _) = _
  rw [hm]
  generalize t.map low = tl
  have n1 : ∀ x : UInt8, 97 ≤ x.toNat → b ≠ x := fun x hx e => by subst e; omega
  rw [if_neg (fun h => n1 110 (by decide) (List.cons.inj h).1), if_neg (fun h => h.elim (fun h => n1 105 (by decide) (List.cons.inj h).1) (fun h => n1 105 (by decide) (List.cons.inj h).1))]
  have sg : ∀ n, sgB false n = n := fun n => rfl
  simp only [sg]
  cases decR ⟨(b :: t).toArray⟩ with
  | none => rfl
  | some x => rfl
/-- Digits, the letter e, a whole number. -/
theorem decR_whole {x k : List UInt8} {e : Int} (hx : ∀ b ∈ x, isD b) (hne : x ≠ []) (hk : expR ⟨k.toArray⟩ = (e, true)) : ∃ ds, decR ⟨(x ++ 101 :: k).toArray⟩ = some (ds, e) ∧ valD ds = valT x ∧ GoodD ds := by
  obtain ⟨ds, h1, h2⟩ := scan_row x (101 :: k) [] 0 0 false hx
  rw [scan_stop (by decide) (by decide)] at h1
  have hg := scan_good (x ++ 101 :: k) [] 0 0 false ⟨by simp, by simp⟩
  rw [h1] at hg
  refine ⟨ds, ?_, by rw [h2]; simp [valD], hg.1⟩
  unfold decR
  rw [ba_of, h1]
  have hl : 0 < x.length := List.length_pos_iff.2 hne
  have h0 : ¬ (0 + x.length = 0) := by omega
  have h101 : (101 : UInt8).toNat = 101 := rfl
  simp only [if_neg h0, h101, true_or, if_true, hk, Bool.false_eq_true, if_false]
  simp
/-- Digits, a point, digits, the letter e, a whole number. -/
theorem decR_point {x y k : List UInt8} {e : Int} (hx : ∀ b ∈ x, isD b) (hy : ∀ b ∈ y, isD b) (hne : x ≠ []) (hk : expR ⟨k.toArray⟩ = (e, true)) : ∃ ds, decR ⟨(x ++ 46 :: (y ++ 101 :: k)).toArray⟩ = some (ds, e - y.length) ∧ valD ds = valT (x ++ y) ∧ GoodD ds := by
  obtain ⟨d1, h1, h2⟩ := scan_row x (46 :: (y ++ 101 :: k)) [] 0 0 false hx
  obtain ⟨ds, h3, h4⟩ := scan_row y (101 :: k) d1 0 (0 + x.length) true hy
  have h5 : scanD (46 :: (y ++ 101 :: k)) d1 0 (0 + x.length) false = scanD (y ++ 101 :: k) d1 0 (0 + x.length) true := by
    rw [scanD, if_neg (by decide), if_pos (by decide)]
  rw [scan_stop (by decide) (by decide)] at h3
  simp only [Bool.false_eq_true, if_false] at h1
  rw [h5, h3] at h1
  have hg := scan_good (x ++ 46 :: (y ++ 101 :: k)) [] 0 0 false ⟨by simp, by simp⟩
  rw [h1] at hg
  refine ⟨ds, ?_, by rw [h4, h2, valT_append]; simp [valD], hg.1⟩
  unfold decR
  rw [ba_of, h1]
  have hl : 0 < x.length := List.length_pos_iff.2 hne
  have h0 : ¬ (0 + x.length + y.length = 0) := by omega
  have h101 : (101 : UInt8).toNat = 101 := rfl
  simp only [if_neg h0, h101, true_or, if_true, hk]
  congr 2
  omega
end Go.Proofs.YtdadagbkkaeejaaGreatDoor.Nu

/- The document's digits. -/
namespace Go.Proofs.YtdadagbkkaeejaaGreatDoor.Nu
open Go.RowKit Go.Maps

theorem ne_list {a b : ByteArray} (h : a ≠ b) : (a.toList == b.toList) = false := by
  rw [beq_eq_false_iff_ne, ByteArray.toList_eq, ByteArray.toList_eq]
  intro e
  exact h (ByteArray.ext (Array.ext' e))

end Go.Proofs.YtdadagbkkaeejaaGreatDoor.Nu

/- strings.Builder's contracts at this program. -/
namespace Go.Proofs
open Go.Shelf
def Tryz.lays166_ren : Go.Shelf.Ren := ⟨fun | 166 => 18 | 240 => 30 | 276 => 45 | n => n, fun | 20 => 20 | 37 => 22 | 70 => 49 | 72 => 51 | 75 => 53 | 80 => 57 | 164 => 81 | n => n, fun | n => n⟩
theorem Tryz.lays166 : Go.Proofs.Lays.n166 Tryz.prog Tryz.lays166_ren := {
  mixed := by kernel_rfl
  f166 := Tryz.func18.trans (congrArg some (by kernel_rfl))
  f240 := Tryz.func30.trans (congrArg some (by kernel_rfl))
  f276 := Tryz.func45.trans (congrArg some (by kernel_rfl))
  t0 := Tryz.underlying0
  a0 := Tryz.isAgg0
  z0 := Tryz.sizeOf0
  v0 := Tryz.zeroValue0
  t3 := Tryz.underlying3
  a3 := Tryz.isAgg3
  z3 := Tryz.sizeOf3
  v3 := Tryz.zeroValue3
  t4 := Tryz.underlying4
  a4 := Tryz.isAgg4
  z4 := Tryz.sizeOf4
  v4 := Tryz.zeroValue4
  t9 := Tryz.underlying9
  a9 := Tryz.isAgg9
  z9 := Tryz.sizeOf9
  v9 := Tryz.zeroValue9
  t20 := Tryz.underlying20
  a20 := Tryz.isAgg20
  z20 := Tryz.sizeOf20
  v20 := Tryz.zeroValue20
  t37 := Tryz.underlying22
  a37 := Tryz.isAgg22
  z37 := Tryz.sizeOf22
  v37 := Tryz.zeroValue22
  t70 := Tryz.underlying49
  a70 := Tryz.isAgg49
  z70 := Tryz.sizeOf49
  v70 := Tryz.zeroValue49
  t72 := Tryz.underlying51
  a72 := Tryz.isAgg51
  z72 := Tryz.sizeOf51
  v72 := Tryz.zeroValue51
  t75 := Tryz.underlying53
  a75 := Tryz.isAgg53
  z75 := Tryz.sizeOf53
  v75 := Tryz.zeroValue53
  t164 := Tryz.underlying81
  a164 := Tryz.isAgg81
  z164 := Tryz.sizeOf81
  v164 := Tryz.zeroValue81 }
theorem Tryz.Builder_Extra_166 : Builder.Extra Tryz.prog Tryz.lays166_ren := {
  sizeBuilder := by kernel_rfl
  liesBuilder := by kernel_rfl
  t5 := Tryz.underlying5
  a5 := Tryz.isAgg5
  z5 := Tryz.sizeOf5
  v5 := Tryz.zeroValue5
  infoByte := by kernel_rfl
  cellsByte := by kernel_rfl
  sizeByte := by kernel_rfl
  neB5 := by decide }
def Tryz.lays167_ren : Go.Shelf.Ren := ⟨fun | 167 => 17 | 240 => 30 | 276 => 45 | n => n, fun | 20 => 20 | 37 => 22 | 70 => 49 | 72 => 51 | 75 => 53 | 80 => 57 | 164 => 81 | n => n, fun | n => n⟩
theorem Tryz.lays167 : Go.Proofs.Lays.n167 Tryz.prog Tryz.lays167_ren := {
  mixed := by kernel_rfl
  f167 := Tryz.func17.trans (congrArg some (by kernel_rfl))
  f240 := Tryz.func30.trans (congrArg some (by kernel_rfl))
  f276 := Tryz.func45.trans (congrArg some (by kernel_rfl))
  t0 := Tryz.underlying0
  a0 := Tryz.isAgg0
  z0 := Tryz.sizeOf0
  v0 := Tryz.zeroValue0
  t4 := Tryz.underlying4
  a4 := Tryz.isAgg4
  z4 := Tryz.sizeOf4
  v4 := Tryz.zeroValue4
  t5 := Tryz.underlying5
  a5 := Tryz.isAgg5
  z5 := Tryz.sizeOf5
  v5 := Tryz.zeroValue5
  t9 := Tryz.underlying9
  a9 := Tryz.isAgg9
  z9 := Tryz.sizeOf9
  v9 := Tryz.zeroValue9
  t20 := Tryz.underlying20
  a20 := Tryz.isAgg20
  z20 := Tryz.sizeOf20
  v20 := Tryz.zeroValue20
  t37 := Tryz.underlying22
  a37 := Tryz.isAgg22
  z37 := Tryz.sizeOf22
  v37 := Tryz.zeroValue22
  t70 := Tryz.underlying49
  a70 := Tryz.isAgg49
  z70 := Tryz.sizeOf49
  v70 := Tryz.zeroValue49
  t72 := Tryz.underlying51
  a72 := Tryz.isAgg51
  z72 := Tryz.sizeOf51
  v72 := Tryz.zeroValue51
  t75 := Tryz.underlying53
  a75 := Tryz.isAgg53
  z75 := Tryz.sizeOf53
  v75 := Tryz.zeroValue53
  t164 := Tryz.underlying81
  a164 := Tryz.isAgg81
  z164 := Tryz.sizeOf81
  v164 := Tryz.zeroValue81 }
theorem Tryz.Builder_Extra_167 : Builder.Extra Tryz.prog Tryz.lays167_ren := {
  sizeBuilder := by kernel_rfl
  liesBuilder := by kernel_rfl
  t5 := Tryz.underlying5
  a5 := Tryz.isAgg5
  z5 := Tryz.sizeOf5
  v5 := Tryz.zeroValue5
  infoByte := by kernel_rfl
  cellsByte := by kernel_rfl
  sizeByte := by kernel_rfl
  neB5 := by decide }
open Go.RowKit in
theorem Tryz.Builder_WriteByte (B b : Nat) (bs : List Value) (c : Int) (w : World) (h : Lib.IsBuilder 51 5 B b bs w) (hlen : bs.length + 1 ≤ 140737488355328) (hBw : B ≤ w.heap.size) :
    Calls Tryz.prog 17 #[.pointer (some ⟨b, 0, none⟩), .int .u8 c] w fun e w' => e = .returned .nilIface ∧ (Lib.BuilderAt 51 5 B b (.pointer (some ⟨b, 0, none⟩)) (bs ++ [.int .u8 c]) w' ∧ Below B w w') := Any.Builder_WriteByte Tryz.lays167 Tryz.Builder_Extra_167 B b bs c w h hlen hBw
open Go.RowKit in
theorem Tryz.Builder_WriteString (B b : Nat) (bs : List Value) (s : ByteArray) (w : World) (h : Lib.IsBuilder 51 5 B b bs w) (hlen : bs.length + s.size ≤ 140737488355328) (hBw : B ≤ w.heap.size) :
    Calls Tryz.prog 18 #[.pointer (some ⟨b, 0, none⟩), .string s] w fun e w' => e = .returned (.tuple #[.int .i64 s.size, .nilIface]) ∧ (Lib.BuilderAt 51 5 B b (.pointer (some ⟨b, 0, none⟩)) (bs ++ Lib.strCells s) w' ∧ Below B w w') := Any.Builder_WriteString Tryz.lays166 Tryz.Builder_Extra_166 B b bs s w h hlen hBw
end Go.Proofs
