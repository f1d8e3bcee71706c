/- Texts that belong together. -/
import Derived.Test.YtfckdleahljdeaaGreatDoorMLl
import Derived.Test.YtfckdleahljdeaaGreatDoorMDr
import Derived.Test.YtfckdleahljdeaaGreatDoorMLd
import Derived.BigQuiet
import Derived.Lib.IndexBytes
import Derived.Lib.IndexMore
import Derived.Test.YtfckdleahljdeaaGreatDoorProg
import Derived.Test.YtfckdleahljdeaaGreatDoorML1
import Derived.Test.YtfckdleahljdeaaGreatDoorMRo
import Derived.Lib.AppendStr
import Derived.Laws.BytesString
import Derived.Laws.BytesArg
import Derived.Laws.AppendOwnNone
import Derived.Deep.RegionLaw
import Derived.Lib.LazyBuf
/- Two lines are held against each other. -/
namespace Go.Proofs.YtfckdleahljdeaaGreatDoor
open Go.RowKit Go.Maps

theorem eqL_self (ls : List Lb) : eqL ls ls = true := decide_eq_true rfl
set_option maxRecDepth 100000 in
set_option maxHeartbeats 2000000 in
theorem keepLines_any (g h V : Nat) (T : Int) (hb : Bool) (a a' : Option Addr) (c c' : Nat) (ls : List Lb) (w : World) (hg : w.heap[g]? = some (.cells #[.slice a ls.length c, .float .f64 V, .int .i64 T, .bool hb] 28)) (hh : w.heap[h]? = some (.cells #[.slice a' ls.length c', .float .f64 V, .int .i64 T, .bool hb] 28))
    (l1 : LabsAt w (.slice a ls.length c) ls) (l2 : LabsAt w (.slice a' ls.length c') ls) (hl : ls.length ≤ 1000000) :
    Calls Tryz.prog 7 #[.slice (some ⟨g, 0, none⟩) 1 1, .slice (some ⟨h, 0, none⟩) 1 1] w fun e w' => e = .returned (.bool true) ∧ ∃ q, w' = w.drewN q := by
  have HG : Hid (∀ q, (w.drewN q).cell? ⟨g, 0, none⟩ = some (.slice a ls.length c) ∧ (w.drewN q).cell? ⟨g, 1, none⟩ = some (.float .f64 V) ∧ (w.drewN q).cell? ⟨g, 2, none⟩ = some (.int .i64 T) ∧ (w.drewN q).cell? ⟨g, 3, none⟩ = some (.bool hb)) := fun q => ⟨by show w.cell? _ = _; rw [cellOf hg]; rfl, by show w.cell? _ = _; rw [cellOf hg]; rfl, by show w.cell? _ = _; rw [cellOf hg]; rfl, by show w.cell? _ = _; rw [cellOf hg]; rfl⟩
  have HH : Hid (∀ q, (w.drewN q).cell? ⟨h, 0, none⟩ = some (.slice a' ls.length c') ∧ (w.drewN q).cell? ⟨h, 1, none⟩ = some (.float .f64 V) ∧ (w.drewN q).cell? ⟨h, 2, none⟩ = some (.int .i64 T) ∧ (w.drewN q).cell? ⟨h, 3, none⟩ = some (.bool hb)) := fun q => ⟨by show w.cell? _ = _; rw [cellOf hh]; rfl, by show w.cell? _ = _; rw [cellOf hh]; rfl, by show w.cell? _ = _; rw [cellOf hh]; rfl, by show w.cell? _ = _; rw [cellOf hh]; rfl⟩
  have HKB : Hid (∀ W, Calls Tryz.prog 14 #[.float .f64 V, .float .f64 V] W fun e w' => e = .returned (.bool true) ∧ w' = W) := fun W => by
    have h := Nu.keepBits_any V V W
    rw [decide_eq_true rfl] at h
    exact h
  have HKL : Hid (∀ W, (∃ q, W = w.drewN q) → Calls Tryz.prog 13 #[.slice a ls.length c, .slice a' ls.length c'] W fun e w' => e = .returned (.bool true) ∧ ∃ q, w' = W.drewN q) := fun W hW => by
    obtain ⟨q, rfl⟩ := hW
    have h := alike_any _ _ ls ls (w.drewN q) (l1.below (below_drewN (Below.refl _ _) q)) (l2.below (below_drewN (Below.refl _ _) q)) hl hl
    rw [eqL_self] at h
    exact h
  clear hg hh l1 l2
  go_enter Tryz.func7, Tryz.ntmps7
  go_wp2
  go_loopw [5] (fun i wr => ∃ k q : Nat, k ≤ 1 ∧ i = .int .i64 k ∧ Hid (wr = w.drewN q)) (fun i _ => 1 - (intOf i).toNat)
  case atStart => exact ⟨0, 0, by omega, rfl, rfl⟩
  case round =>
    obtain ⟨k, q, hk, rfl, HW⟩ := hrel
    by_cases hlt : k < 1
    · obtain rfl : k = 0 := by omega
      obtain ⟨g0, g1, g2, g3⟩ := HG.out q
      obtain ⟨h0, h1, h2, h3⟩ := HH.out q
      rw [← HW.out] at g0 g1 g2 g3 h0 h1 h2 h3
      have HKL2 : Hid (∀ W, (∃ q, W = wr.drewN q) → Calls Tryz.prog 13 #[.slice a ls.length c, .slice a' ls.length c'] W fun e w' => e = .returned (.bool true) ∧ ∃ q, w' = W.drewN q) := fun W hW => by
        obtain ⟨q2, rfl⟩ := hW
        exact HKL.out _ ⟨q + q2, by rw [HW.out, World.drewN_drewN]⟩
      clear HG HH HKL
      go_wp2_with fail
      go_quiet (first | (go_at_call 13; exact Calls.quiet_of (HKL2.out _ ⟨_, rfl⟩)) | (go_at_call 14; exact Calls.quiet_of_same (HKB.out _)))
      go_wp2
      go_roundw
      case rel => exact ⟨1, q + nq, by omega, by go_num, by show _ = _; rw [HW.out, World.drewN_drewN]⟩
      case measure => simp [intOf]
    · obtain rfl : k = 1 := by omega
      clear HG HH HKL
      go_wp2
      go_ret
      exact ⟨rfl, q, HW.out⟩
end Go.Proofs.YtfckdleahljdeaaGreatDoor

/- A body's lines: pure. -/
namespace Go.Proofs.YtfckdleahljdeaaGreatDoor

/-- The lines of what is left, behind what was read of a line. -/
def linesA : List UInt8 → List UInt8 → List (List UInt8)
  | [], cur => if cur = [] then [] else [cur]
  | c :: t, cur => if c = 10 then cur :: linesA t [] else linesA t (cur ++ [c])
/-- A body's lines. -/
def linesF (l : List UInt8) : List (List UInt8) := linesA l []
theorem linesA_end {cur : List UInt8} (h : cur ≠ []) : linesA [] cur = [cur] := by rw [linesA, if_neg h]
theorem linesA_nil : linesA [] [] = [] := rfl
theorem linesA_break (t cur : List UInt8) : linesA (10 :: t) cur = cur :: linesA t [] := by rw [linesA, if_pos rfl]
theorem linesA_on {c : UInt8} (h : c ≠ 10) (t cur : List UInt8) : linesA (c :: t) cur = linesA t (cur ++ [c]) := by rw [linesA, if_neg h]
/-- Where the first line end stands, or that none does. -/
theorem linesA_index : ∀ (l cur : List UInt8), (Lib.indexByte l 10 = -1 ∧ linesA l cur = linesA [] (cur ++ l)) ∨ (∃ i : Nat, Lib.indexByte l 10 = i ∧ i < l.length ∧ linesA l cur = (cur ++ l.take i) :: linesA (l.drop (i + 1)) [])
  | [], cur => .inl ⟨rfl, by rw [List.append_nil]⟩
  | c :: t, cur => by
    by_cases hc : c = 10
    · subst hc
      exact .inr ⟨0, by simp [Lib.indexByte], by simp, by rw [linesA_break]; simp⟩
    · have hb : (c == 10) = false := by simpa using hc
      rcases linesA_index t (cur ++ [c]) with ⟨h1, h2⟩ | ⟨i, h1, h2, h3⟩
      · refine .inl ⟨?_, ?_⟩
        · simp [Lib.indexByte, hb, h1]
        · rw [linesA_on hc, h2, List.append_assoc, List.singleton_append]
      · refine .inr ⟨i + 1, ?_, by simp; omega, ?_⟩
        · have : ((i : Int) == -1) = false := by simp
          simp only [Lib.indexByte, hb, h1, this]
          simp
        · rw [linesA_on hc, h3]
          simp
/-- One line, and what is behind it. -/
theorem linesF_cut {l : List UInt8} (h : l ≠ []) : (Lib.index l [10] = -1 ∧ linesF l = [l]) ∨ (∃ i : Nat, Lib.index l [10] = i ∧ i < l.length ∧ linesF l = l.take i :: linesF (l.drop (i + 1))) := by
  rw [Lib.index_one]
  rcases linesA_index l [] with ⟨h1, h2⟩ | ⟨i, h1, h2, h3⟩
  · exact .inl ⟨h1, by unfold linesF; rw [h2]; exact linesA_end h⟩
  · exact .inr ⟨i, h1, h2, h3⟩
theorem linesF_nil : linesF [] = [] := rfl
theorem linesA_count : ∀ (l cur : List UInt8), (linesA l cur).length ≤ l.length + (if cur = [] then 0 else 1)
  | [], cur => by
    unfold linesA
    by_cases h : cur = []
    · rw [if_pos h, if_pos h]; simp
    · rw [if_neg h, if_neg h]; simp
  | c :: t, cur => by
    by_cases hc : c = 10
    · subst hc
      rw [linesA_break]
      have := linesA_count t []
      rw [if_pos rfl] at this
      simp
      omega
    · rw [linesA_on hc]
      have := linesA_count t (cur ++ [c])
      rw [if_neg (by simp)] at this
      simp
      omega
theorem linesF_count (l : List UInt8) : (linesF l).length ≤ l.length := by
  have := linesA_count l []
  rw [if_pos rfl] at this
  exact this
theorem linesA_sizes : ∀ (l cur : List UInt8) (x : List UInt8), x ∈ linesA l cur → x.length ≤ cur.length + l.length
  | [], cur, x, h => by
    unfold linesA at h
    by_cases hc : cur = []
    · rw [if_pos hc] at h; simp at h
    · rw [if_neg hc] at h
      rw [List.mem_singleton.1 h]
      simp
  | c :: t, cur, x, h => by
    by_cases hc : c = 10
    · subst hc
      rw [linesA_break] at h
      rcases List.mem_cons.1 h with rfl | h
      · simp
      · have := linesA_sizes t [] x h
        simp at this ⊢
        omega
    · rw [linesA_on hc] at h
      have := linesA_sizes t (cur ++ [c]) x h
      simp at this ⊢
      omega
end Go.Proofs.YtfckdleahljdeaaGreatDoor

/- A slice that reads as texts. -/
namespace Go.Proofs.YtfckdleahljdeaaGreatDoor
open Go.RowKit

/-- A slice that reads as these texts. -/
def TextsAt (w : World) (v : Value) (ss : List ByteArray) : Prop :=
  ∃ a c, v = .slice a ss.length c ∧ (ss.length ≤ c ∧ c ≤ maxLen) ∧ ∀ k (hk : k < ss.length), ∃ b o, a = some ⟨b, o, none⟩ ∧ b < w.heap.size ∧ w.cell? ⟨b, o + k, none⟩ = some (.string ss[k]) ∧ ss[k].size ≤ maxLen
theorem TextsAt.below {w w' : World} {v : Value} {ss : List ByteArray} (h : TextsAt w v ss) (hb : Below w.heap.size w w') : TextsAt w' v ss := by
  obtain ⟨a, c, e, hlc, hk⟩ := h
  refine ⟨a, c, e, hlc, fun k hlt => ?_⟩
  obtain ⟨b, o, ha, hl, h1, h2⟩ := hk k hlt
  have := hb.size
  exact ⟨b, o, ha, by omega, (hb.cell (p := ⟨b, o + k, none⟩) hl).trans h1, h2⟩
theorem TextsAt.one {w : World} {a : Option Addr} {c : Nat} {ss : List ByteArray} (h : TextsAt w (.slice a ss.length c) ss) (k : Nat) (hk : k < ss.length) : ∃ b o, a = some ⟨b, o, none⟩ ∧ ss[k].size ≤ maxLen ∧ ∀ w', Below w.heap.size w w' → w'.cell? ⟨b, o + k, none⟩ = some (.string ss[k]) := by
  obtain ⟨a', c', e, -, hc⟩ := h
  cases e
  obtain ⟨b, o, rfl, hb, h1, h2⟩ := hc k hk
  exact ⟨b, o, rfl, h2, fun w' hb' => (hb'.cell (p := ⟨b, o + k, none⟩) hb).trans h1⟩

end Go.Proofs.YtfckdleahljdeaaGreatDoor

/- append of texts. -/
namespace Go.Proofs.YtfckdleahljdeaaGreatDoor
open Go.RowKit Go.Maps Go.Sort

def txCells (l : List ByteArray) : List Value := l.map .string
theorem txCells_length (l : List ByteArray) : (txCells l).length = l.length := by simp [txCells]
theorem txCells_one (l : List ByteArray) : ∀ u ∈ txCells l, u.oneCell' = true := fun u hu => by
  simp only [txCells, List.mem_map] at hu
  obtain ⟨x, _, rfl⟩ := hu
  rfl
theorem infoTx : (Tryz.prog.info? 9).map (fun i => (i.zero, i.size, i.bytes)) = some (some (.string ByteArray.empty), 1, 16) := by kernel_rfl
theorem TextsAt.cells {w : World} {b o : Nat} {c : Nat} {ls : List ByteArray} (h : TextsAt w (.slice (some ⟨b, o, none⟩) ls.length c) ls) : ∀ j u, (txCells ls)[j]? = some u → w.cell? ((⟨b, o, none⟩ : Addr).add j) = some u := fun j u hu => by
  have hj : j < ls.length := by
    rcases Nat.lt_or_ge j ls.length with h1 | h1
    · exact h1
    · rw [List.getElem?_eq_none (by rw [txCells_length]; exact h1)] at hu; cases hu
  obtain ⟨a', c', e, hlc, hc⟩ := h
  cases e
  obtain ⟨b', o', e, _, h1, _⟩ := hc j hj
  cases e
  rw [Addr.add_lit, h1, ← hu]
  simp [txCells, hj]
theorem TextsAt.of_row {w : World} {base : Nat} {v : Value} {ls : List ByteArray} (h : w.ownsRow base 9 1 v ls.length (txCells ls)) (hs : ∀ x ∈ ls, x.size ≤ maxLen) : TextsAt w v ls := by
  rcases h.2 with ⟨e, h0⟩ | ⟨g, cap, cur, e, hg, hcur, hc1, hc2, _⟩
  · exact ⟨none, 0, by rw [e, h0], ⟨by omega, Nat.zero_le _⟩, fun k hk => by omega⟩
  · refine ⟨some ⟨g, 0, none⟩, cap, e, ⟨hc1, hc2⟩, fun k hk => ⟨g, 0, rfl, (Array.getElem?_eq_some_iff.1 hcur).1, ?_, hs _ (List.getElem_mem hk)⟩⟩
    have := h.cells (g := g) (by rw [e]; rfl) k (.string ls[k]) (by simp [txCells, hk])
    rw [Addr.add_lit] at this
    exact this
theorem TextsAt.sizes {w : World} {v : Value} {ls : List ByteArray} (h : TextsAt w v ls) : ∀ x ∈ ls, x.size ≤ maxLen := fun x hx => by
  obtain ⟨a', c', e, hlc, hc⟩ := h
  obtain ⟨i, hi, rfl⟩ := List.getElem_of_mem hx
  obtain ⟨b', o', e, _, h1, h2⟩ := hc i hi
  exact h2

theorem wpList_append_texts (w : World) {ops : Array Oper} {rest : List Oper} {o : Oper} {a : Act} {Q : Exit → Act → World → Prop} (hgd : o.guard = none) (s x : Operand)
    (ho : o.op = .call { callee := .builtin .append, args := #[s, x], argTypes := #[22, 22] }) (base : Nat) (v : Value) (n : Nat) (xs : List Value) (hs : a.eval s = v) (hown : w.ownsRow base 9 1 v n xs)
    (xv : Value) (nw : List ByteArray) (hx : a.eval x = xv) (hb : TextsAt w xv nw) (hl : n + nw.length ≤ 1000000) (hbase : base ≤ w.heap.size)
    (h : ∀ v' w', w'.ownsRow base 9 1 v' (n + nw.length) (xs ++ txCells nw) → w.grownBy w' v.ownBlock → (v'.ownBlock = v.ownBlock ∨ v'.ownBlock = some w.heap.size) → wpList Tryz.prog ops Q rest (a.put o.dst v') w') :
    wpList Tryz.prog ops Q (o :: rest) a w := by
  obtain ⟨i0, hi0, hz0, hz1, hz2⟩ := info_parts infoTx
  obtain ⟨ax, c, rfl, hlc, -⟩ := id hb
  have hsome : ∀ ad : Addr, ax = some ad → (∀ j u, (txCells nw)[j]? = some u → w.cell? (ad.add j) = some u) → ∃ v' w', (Builtin.append_ #[22, 22] o.type #[v, .slice ax nw.length c]).run Tryz.prog w = .ok v' w' ∧ w'.ownsRow base 9 1 v' (n + nw.length) (xs ++ txCells nw) ∧ w.grownBy w' v.ownBlock ∧ (v'.ownBlock = v.ownBlock ∨ v'.ownBlock = some w.heap.size) := fun ad e hcell => by
    subst e
    obtain ⟨v', w', hr, h2, h3, _, h5⟩ := run_append_own_at (P := Tryz.prog) w base 22 o.type 9 i0 _ 1 16 Tryz.underlying22 hi0 hz0 hz1 hz2 rfl (by decide) v n xs hown ad nw.length c (txCells nw) (by rw [txCells_length]; omega) hcell (txCells_one nw) (by unfold maxLen; omega) (by omega) hbase
    exact ⟨v', w', hr, h2, h3, h5⟩
  have hall : ∃ v' w', (Builtin.append_ #[22, 22] o.type #[v, .slice ax nw.length c]).run Tryz.prog w = .ok v' w' ∧ w'.ownsRow base 9 1 v' (n + nw.length) (xs ++ txCells nw) ∧ w.grownBy w' v.ownBlock ∧ (v'.ownBlock = v.ownBlock ∨ v'.ownBlock = some w.heap.size) := by
    cases nw with
    | nil =>
      cases ax with
      | none => exact ⟨v, w, run_append_owned_none (P := Tryz.prog) (w := w) base 22 o.type 9 i0 1 Tryz.underlying22 hi0 v n xs hown, by simpa [txCells] using hown, ⟨rfl, rfl, rfl, Nat.le_refl _, fun _ _ _ => rfl⟩, Or.inl rfl⟩
      | some ad => exact hsome ad rfl (fun j u hu => by simp [txCells] at hu)
    | cons y r =>
      obtain ⟨a', c', e, -, hc⟩ := id hb
      cases e
      obtain ⟨b, o1, rfl, -⟩ := hc 0 (by simp)
      exact hsome _ rfl hb.cells
  refine wpList_plain hgd fun K hK => ?_
  obtain ⟨v', w', hr, h2, h3, h4⟩ := hall
  unfold Oper.wp execOp
  simp only [ho, resolve, invoke, builtin, Sem.run_bind, Sem.run_pure, Result.andThen_ok, List.map_toArray, List.map_cons, List.map_nil, hs, hx, hr]
  exact hK _ _ (h v' w' h2 h3 h4)

end Go.Proofs.YtfckdleahljdeaaGreatDoor

/- A set's bytes: a text behind its length. -/
namespace Go.Proofs.YtfckdleahljdeaaGreatDoor
open Go.RowKit Go.Maps

def byteVals (bs : List UInt8) : List Value := bs.map fun b => .int .u8 b.toNat
theorem byteVals_append (a b : List UInt8) : byteVals (a ++ b) = byteVals a ++ byteVals b := by simp [byteVals]
theorem byteVals_length (a : List UInt8) : (byteVals a).length = a.length := by simp [byteVals]
theorem infoU8 : (Tryz.prog.info? 5).map (fun i => (i.zero, i.size, i.bytes)) = some (some (.int .u8 0), 1, 1) := by kernel_rfl
def Row (w : World) (base : Nat) (v : Value) (bs : List UInt8) : Prop := w.ownsRow base 5 1 v bs.length (byteVals bs)
def txt (s : ByteArray) : List UInt8 := [UInt8.ofNat (s.size / 256), UInt8.ofNat s.size] ++ s.data.toList
theorem txt_length (s : ByteArray) : (txt s).length = s.size + 2 := by
  unfold txt
  rw [List.length_append, Array.length_toList]
  show 2 + s.size = _
  omega

/-- Two steps behind one row. -/
theorem grown_two {w w1 w2 : World} {v v1 : Value} (h1 : w.grownBy w1 v.ownBlock) (hv : v1.ownBlock = v.ownBlock ∨ ∃ k, v1.ownBlock = some k ∧ w.heap.size ≤ k) (h2 : w1.grownBy w2 v1.ownBlock) : w.grownBy w2 v.ownBlock :=
  ⟨h2.os.trans h1.os, h2.tape.trans h1.tape, h2.output.trans h1.output, Nat.le_trans h1.size h2.size, fun i hi hne => (h2.block i (Nat.lt_of_lt_of_le hi h1.size) (fun e => by
    rcases hv with e1 | ⟨k, e1, hk⟩
    · exact hne (e.trans e1)
    · rw [e1] at e
      cases e
      omega)).trans (h1.block i hi hne)⟩

end Go.Proofs.YtfckdleahljdeaaGreatDoor

/- A slice that reads as bytes. -/
namespace Go.Proofs.YtfckdleahljdeaaGreatDoor
open Go.RowKit Go.Maps

/-- A slice that reads as these bytes. -/
def BytesAt (w : World) (v : Value) (bs : List UInt8) : Prop :=
  ∃ a c, v = .slice a bs.length c ∧ (bs.length ≤ c ∧ c ≤ maxLen) ∧ (a = none → c = 0 ∧ bs = []) ∧ ∀ k (hk : k < bs.length), ∃ b o, a = some ⟨b, o, none⟩ ∧ b < w.heap.size ∧ w.cell? ⟨b, o + k, none⟩ = some (.int .u8 bs[k].toNat)
theorem BytesAt.nil {w : World} : BytesAt w (.slice none 0 0) [] := ⟨none, 0, rfl, ⟨Nat.zero_le _, Nat.zero_le _⟩, fun _ => ⟨rfl, rfl⟩, fun _k hk => absurd hk (Nat.not_lt_zero _)⟩
theorem BytesAt.below {w w' : World} {v : Value} {bs : List UInt8} (h : BytesAt w v bs) (hb : Below w.heap.size w w') : BytesAt w' v bs := by
  obtain ⟨a, c, e, hlc, hn, hk⟩ := h
  refine ⟨a, c, e, hlc, hn, fun k hlt => ?_⟩
  obtain ⟨b, o, ha, hl, h1⟩ := hk k hlt
  have := hb.size
  exact ⟨b, o, ha, by omega, (hb.cell (p := ⟨b, o + k, none⟩) hl).trans h1⟩
theorem BytesAt.drewN {w : World} {v : Value} {bs : List UInt8} (h : BytesAt w v bs) (q : Nat) : BytesAt (w.drewN q) v bs := h.below (below_drewN (Below.refl _ _) q)
theorem BytesAt.one {w : World} {a : Option Addr} {c n : Nat} {bs : List UInt8} (h : BytesAt w (.slice a n c) bs) (k : Nat) (hk : k < bs.length) : ∃ b o, a = some ⟨b, o, none⟩ ∧ ∀ w', Below w.heap.size w w' → w'.cell? ⟨b, o + k, none⟩ = some (.int .u8 bs[k].toNat) := by
  obtain ⟨a', c', e, -, -, hc⟩ := h
  cases e
  obtain ⟨b, o, rfl, hb, h1⟩ := hc k hk
  exact ⟨b, o, rfl, fun w' hb' => (hb'.cell (p := ⟨b, o + k, none⟩) hb).trans h1⟩
theorem BytesAt.of_row {w : World} {base : Nat} {v : Value} {bs : List UInt8} (h : w.ownsRow base 5 1 v bs.length (byteVals bs)) : BytesAt w v bs := by
  rcases h.2 with ⟨e, h0⟩ | ⟨g, cap, cur, e, hg, hcur, hc1, hc2, _⟩
  · have : bs = [] := List.eq_nil_of_length_eq_zero h0
    subst this
    rw [e]
    exact BytesAt.nil
  · refine ⟨some ⟨g, 0, none⟩, cap, e, ⟨hc1, hc2⟩, (fun e9 => by cases e9), fun k hk => ⟨g, 0, rfl, (Array.getElem?_eq_some_iff.1 hcur).1, ?_⟩⟩
    have := h.cells (g := g) (by rw [e]; rfl) k (.int .u8 bs[k].toNat) (by simp [byteVals, hk])
    rw [Addr.add_lit] at this
    exact this
theorem BytesAt.take {w : World} {a : Option Addr} {n c : Nat} {bs : List UInt8} (h : BytesAt w (.slice a n c) bs) (k : Nat) (hk : k ≤ n) : BytesAt w (.slice a k c) (bs.take k) := by
  obtain ⟨a', c', e, hlc, hn, hc⟩ := h
  cases e
  have hl : (bs.take k).length = k := by simp; omega
  refine ⟨a, c, by rw [hl], ⟨by omega, hlc.2⟩, fun e9 => ⟨(hn e9).1, by rw [(hn e9).2]; simp⟩, fun i hi => ?_⟩
  obtain ⟨b, o, e, h1, h2⟩ := hc i (by omega)
  exact ⟨b, o, e, h1, by rw [h2]; simp⟩
theorem BytesAt.drop {w : World} {b o n c : Nat} {bs : List UInt8} (h : BytesAt w (.slice (some ⟨b, o, none⟩) n c) bs) (k : Nat) (_hk : k ≤ n) : BytesAt w (.slice (some ⟨b, o + k, none⟩) (n - k) (c - k)) (bs.drop k) := by
  obtain ⟨a', c', e, hlc, -, hc⟩ := h
  cases e
  have hl : (bs.drop k).length = bs.length - k := by simp
  refine ⟨_, _, by rw [hl], ⟨by omega, by have := hlc.2; omega⟩, (fun e9 => by cases e9), fun i hi => ?_⟩
  obtain ⟨b', o', e, h1, h2⟩ := hc (k + i) (by omega)
  cases e
  exact ⟨b, o + k, rfl, h1, by rw [show o + k + i = o + (k + i) by omega, h2]; simp⟩
/-- Its end, as a slice expression gives it. -/
theorem BytesAt.rest {w : World} {b o n c : Nat} {bs : List UInt8} (h : BytesAt w (.slice (some ⟨b, o, none⟩) n c) bs) (k : Nat) (hk : k ≤ n) : BytesAt w (.slice (if c = k then some ⟨b, o, none⟩ else some ⟨b, o + k, none⟩) (n - k) (c - k)) (bs.drop k) := by
  by_cases hc : c = k
  · rw [if_pos hc]
    obtain ⟨a', c', e, hlc, -⟩ := id h
    cases e
    have hl : (bs.drop k).length = bs.length - k := by simp
    refine ⟨_, _, by rw [hl], ⟨by omega, by have := hlc.2; omega⟩, (fun e9 => by cases e9), fun i hi => by omega⟩
  · rw [if_neg hc]
    exact h.drop k hk
theorem BytesAt.cells {w : World} {ad : Addr} {n c : Nat} {bs : List UInt8} (h : BytesAt w (.slice (some ad) n c) bs) : ∀ j u, (byteVals bs)[j]? = some u → w.cell? (ad.add j) = some u := fun j u hu => by
  obtain ⟨a', c', e, hlc, -, hc⟩ := h
  cases e
  have hj : j < bs.length := by
    rcases Nat.lt_or_ge j bs.length with h1 | h1
    · exact h1
    · rw [List.getElem?_eq_none (by rw [byteVals_length]; exact h1)] at hu; cases hu
  obtain ⟨b', o', e, _, h1⟩ := hc j hj
  cases e
  rw [Addr.add_lit, h1, ← hu]
  simp [byteVals, hj]
/-- Its text. -/
theorem BytesAt.str {w : World} {v : Value} {bs : List UInt8} (h : BytesAt w v bs) : (convert 23 9 v).run Tryz.prog w = .ok (.string ⟨bs.toArray⟩) w := by
  obtain ⟨a, c, rfl, hlc, hn, hc⟩ := id h
  cases a with
  | none =>
    obtain ⟨rfl, rfl⟩ := hn rfl
    exact run_convert_bytes_nil w 23 5 Tryz.underlying23 Tryz.underlying5 0 0 9 Tryz.underlying9
  | some ad =>
    have e1 : (bs.map fun b => (b.toNat : Int)).map (Value.int .u8) = byteVals bs := by simp [byteVals]
    have hl : (loadCells ad bs.length).run Tryz.prog w = .ok ((bs.map fun b => (b.toNat : Int)).map (Value.int .u8)).toArray w := by
      rw [e1]
      have := run_loadCells_list (P := Tryz.prog) w ad (byteVals bs) h.cells
      rw [byteVals_length] at this
      exact this
    rw [run_convert_bytes_string w 23 9 5 _ bs.length c Tryz.underlying23 Tryz.underlying5 Tryz.underlying9, run_bytesToString w _ bs.length c _ hl]
    have e2 : (bs.map fun b => (b.toNat : Int)).foldl (fun r n => r.push (UInt8.ofNat n.toNat)) ByteArray.empty = ⟨bs.toArray⟩ := by
      have key : ∀ (l : List UInt8) (r : ByteArray), (l.map fun b => (b.toNat : Int)).foldl (fun r n => r.push (UInt8.ofNat n.toNat)) r = ⟨r.data ++ l.toArray⟩ := fun l => by
        induction l with
        | nil => intro r; simp
        | cons x t ih =>
          intro r
          rw [List.map_cons, List.foldl_cons, ih]
          apply WideShapes.bytes_inj
          simp [ByteArray.push]
      rw [key]
      apply WideShapes.bytes_inj
      simp [ByteArray.empty, ByteArray.emptyWithCapacity]
      rfl
    rw [e2]
theorem byteVals_one (bs : List UInt8) : ∀ u ∈ byteVals bs, u.oneCell' = true := fun u hu => by
  simp only [byteVals, List.mem_map] at hu
  obtain ⟨x, _, rfl⟩ := hu
  rfl
/-- append of a slice of bytes, nil or not, onto a slice of the call's own. -/
theorem wpList_append_bytes (w : World) {ops : Array Oper} {rest : List Oper} {o : Oper} {a : Act} {Q : Exit → Act → World → Prop} (hgd : o.guard = none) (s x : Operand)
    (ho : o.op = .call { callee := .builtin .append, args := #[s, x], argTypes := #[23, 23] }) (base : Nat) (v : Value) (n : Nat) (xs : List Value) (hs : a.eval s = v) (hown : w.ownsRow base 5 1 v n xs)
    (xv : Value) (nw : List UInt8) (hx : a.eval x = xv) (hb : BytesAt w xv nw) (hl : n + nw.length ≤ 1000000000) (hbase : base ≤ w.heap.size)
    (h : ∀ v' w', w'.ownsRow base 5 1 v' (n + nw.length) (xs ++ byteVals nw) → w.grownBy w' v.ownBlock → (v'.ownBlock = v.ownBlock ∨ v'.ownBlock = some w.heap.size) → wpList Tryz.prog ops Q rest (a.put o.dst v') w') : wpList Tryz.prog ops Q (o :: rest) a w := by
  obtain ⟨i0, hi0, hz0, hz1, hz2⟩ := info_parts infoU8
  obtain ⟨ax, c, rfl, hlc, hn, hc⟩ := id hb
  cases ax with
  | none =>
    obtain ⟨rfl, rfl⟩ := hn rfl
    exact wpList_append_own_none hgd s x 23 ho base 5 i0 1 Tryz.underlying23 hi0 v n xs hs hown hx (h v w (by simpa [byteVals] using hown) ⟨rfl, rfl, rfl, Nat.le_refl _, fun _ _ _ => rfl⟩ (Or.inl rfl))
  | some ad => exact wpList_append_own_at w hgd s x 23 ho base 5 i0 (.int .u8 0) 1 1 Tryz.underlying23 hi0 hz0 hz1 hz2 rfl (by decide) v n xs hs hown ad nw.length c (byteVals nw) hx (by rw [byteVals_length]; omega) hb.cells (byteVals_one nw) (by unfold maxLen; omega) (by omega) hbase (fun v' w' h1 h2 _ h4 => h v' w' h1 h2 h4)

end Go.Proofs.YtfckdleahljdeaaGreatDoor

/- A body's lines: how the document tells them. -/
namespace Go.Proofs.YtfckdleahljdeaaGreatDoor
open Go.RowKit Go.Maps

def mkB (l : List UInt8) : ByteArray := ⟨l.toArray⟩
theorem mkB_size (l : List UInt8) : (mkB l).size = l.length := by show l.toArray.size = _; simp
theorem txCells_append (a b : List ByteArray) : txCells (a ++ b) = txCells a ++ txCells b := by simp [txCells]

set_option maxRecDepth 100000 in
set_option maxHeartbeats 1000000 in
theorem clip_any (v : Value) (bs : List UInt8) (w : World) (h : BytesAt w v bs) (hl : bs.length ≤ 9223372036854775807) :
    Calls Tryz.prog 4 #[v] w fun e w' => ∃ v', e = .returned v' ∧ BytesAt w v' (bs.take 1500) ∧ w' = w := by
  obtain ⟨a, c, rfl, hlc, -⟩ := id h
  have hc : c ≤ 9223372036854775807 := by have := hlc.2; unfold maxLen at this; omega
  by_cases hn : 1500 < bs.length
  · have HT : Hid (BytesAt w (.slice a 1500 c) (bs.take 1500)) := h.take 1500 (by omega)
    clear h
    go_enter Tryz.func4, Tryz.ntmps4
    go_wp2
    go_ret
    exact ⟨_, rfl, HT.out, rfl⟩
  · have HT : Hid (BytesAt w (.slice a bs.length c) (bs.take 1500)) := by
      show BytesAt _ _ _
      rw [List.take_of_length_le (by omega)]
      exact h
    clear h
    go_enter Tryz.func4, Tryz.ntmps4
    go_wp2
    go_ret
    exact ⟨_, rfl, HT.out, rfl⟩

/-- The bytes between two places, as a slice of the row. -/
theorem BytesAt.mid {w : World} {a : Option Addr} {n c : Nat} {bs : List UInt8} (h : BytesAt w (.slice a n c) bs) (f i : Nat) (hf : f ≤ i) (hi : i ≤ n) : BytesAt w (.slice (if c = f then a else a.map (fun p => p.add f)) (i - f) (c - f)) ((bs.take i).drop f) := by
  obtain ⟨a', c', e, hlc, hn, hc⟩ := id h
  cases e
  cases a with
  | none =>
    obtain ⟨rfl, rfl⟩ := hn rfl
    simp at hi
    subst hi
    obtain rfl : f = 0 := by omega
    simpa using BytesAt.nil
  | some p =>
    have ht := h.take i hi
    by_cases hb : bs = []
    · subst hb
      simp at hi
      subst hi
      obtain rfl : f = 0 := by omega
      by_cases h0 : c = 0
      · rw [if_pos h0]; simpa using ht
      · rw [if_neg h0]
        refine ⟨_, _, rfl, ⟨by simp, by have := hlc.2; omega⟩, (fun e9 => by cases e9), fun k hk => by simp at hk⟩
    · obtain ⟨b, o, e, -⟩ := hc 0 (List.length_pos_iff.2 hb)
      cases e
      simp only [Option.map_some, Addr.add_lit]
      exact ht.rest f hf

theorem linesA_from (bs : List UInt8) (f i : Nat) (hi : i < bs.length) (hf : f ≤ i) : ∃ c, c = bs[i] ∧ (bs.drop i) = c :: bs.drop (i + 1) ∧ (bs.take (i + 1)).drop f = (bs.take i).drop f ++ [c] := by
  refine ⟨_, rfl, List.drop_eq_getElem_cons hi, ?_⟩
  rw [List.take_succ_eq_append_getElem hi, List.drop_append_of_le_length (by simp; omega)]
theorem infoS : (Tryz.prog.info? 9).map (fun i => (i.zero, i.size, i.bytes)) = some (some (.string ByteArray.empty), 1, 16) := by kernel_rfl

end Go.Proofs.YtfckdleahljdeaaGreatDoor
