/- Texts that belong together. -/
import Derived.Lib.IndexBytes
import Derived.Lib.IndexMore
import Derived.Test.YtdadagbkkaeejaaGreatDoorProg
import Derived.WalkKit
import Derived.WalkSpells
import Derived.WalkLawsBesides
import Derived.Deep.AppendLies
import Derived.Deep.Light
import Derived.Below
import Derived.Deep.QuietTactic
import Derived.BigQuiet
import Derived.Sort.Walk0
/- A body's lines: pure. -/
namespace Go.Proofs.YtdadagbkkaeejaaGreatDoor

/-- The lines of what is left, behind what was read of a line. -/
def linesA : List UInt8 → List UInt8 → List (List UInt8)
  | [], cur => if cur = [] then [] else [cur]
  | c :: t, cur => if c = 10 then cur :: linesA t [] else linesA t (cur ++ [c])
/-- A body's lines. -/
def linesF (l : List UInt8) : List (List UInt8) := linesA l []
theorem linesA_end {cur : List UInt8} (h : cur ≠ []) : linesA [] cur = [cur] := by rw [linesA, if_neg h]
theorem linesA_nil : linesA [] [] = [] := rfl
theorem linesA_break (t cur : List UInt8) : linesA (10 :: t) cur = cur :: linesA t [] := by rw [linesA, if_pos rfl]
theorem linesA_on {c : UInt8} (h : c ≠ 10) (t cur : List UInt8) : linesA (c :: t) cur = linesA t (cur ++ [c]) := by rw [linesA, if_neg h]
/-- Where the first line end stands, or that none does. -/
theorem linesA_index : ∀ (l cur : List UInt8), (Lib.indexByte l 10 = -1 ∧ linesA l cur = linesA [] (cur ++ l)) ∨ (∃ i : Nat, Lib.indexByte l 10 = i ∧ i < l.length ∧ linesA l cur = (cur ++ l.take i) :: linesA (l.drop (i + 1)) [])
  | [], cur => .inl ⟨rfl, by rw [List.append_nil]⟩
  | c :: t, cur => by
    by_cases hc : c = 10
    · subst hc
      exact .inr ⟨0, by simp [Lib.indexByte], by simp, by rw [linesA_break]; simp⟩
    · have hb : (c == 10) = false := by simpa using hc
      rcases linesA_index t (cur ++ [c]) with ⟨h1, h2⟩ | ⟨i, h1, h2, h3⟩
      · refine .inl ⟨?_, ?_⟩
        · simp [Lib.indexByte, hb, h1]
        · rw [linesA_on hc, h2, List.append_assoc, List.singleton_append]
      · refine .inr ⟨i + 1, ?_, by simp; omega, ?_⟩
        · have : ((i : Int) == -1) = false := by simp
          simp only [Lib.indexByte, hb, h1, this]
          simp
        · rw [linesA_on hc, h3]
          simp
/-- One line, and what is behind it. -/
theorem linesF_cut {l : List UInt8} (h : l ≠ []) : (Lib.index l [10] = -1 ∧ linesF l = [l]) ∨ (∃ i : Nat, Lib.index l [10] = i ∧ i < l.length ∧ linesF l = l.take i :: linesF (l.drop (i + 1))) := by
  rw [Lib.index_one]
  rcases linesA_index l [] with ⟨h1, h2⟩ | ⟨i, h1, h2, h3⟩
  · exact .inl ⟨h1, by unfold linesF; rw [h2]; exact linesA_end h⟩
  · exact .inr ⟨i, h1, h2, h3⟩
theorem linesF_nil : linesF [] = [] := rfl
theorem linesA_count : ∀ (l cur : List UInt8), (linesA l cur).length ≤ l.length + (if cur = [] then 0 else 1)
  | [], cur => by
    unfold linesA
    by_cases h : cur = []
    · rw [if_pos h, if_pos h]; simp
    · rw [if_neg h, if_neg h]; simp
  | c :: t, cur => by
    by_cases hc : c = 10
    · subst hc
      rw [linesA_break]
      have := linesA_count t []
      rw [if_pos rfl] at this
      simp
      omega
    · rw [linesA_on hc]
      have := linesA_count t (cur ++ [c])
      rw [if_neg (by simp)] at this
      simp
      omega
theorem linesF_count (l : List UInt8) : (linesF l).length ≤ l.length := by
  have := linesA_count l []
  rw [if_pos rfl] at this
  exact this
theorem linesA_sizes : ∀ (l cur : List UInt8) (x : List UInt8), x ∈ linesA l cur → x.length ≤ cur.length + l.length
  | [], cur, x, h => by
    unfold linesA at h
    by_cases hc : cur = []
    · rw [if_pos hc] at h; simp at h
    · rw [if_neg hc] at h
      rw [List.mem_singleton.1 h]
      simp
  | c :: t, cur, x, h => by
    by_cases hc : c = 10
    · subst hc
      rw [linesA_break] at h
      rcases List.mem_cons.1 h with rfl | h
      · simp
      · have := linesA_sizes t [] x h
        simp at this ⊢
        omega
    · rw [linesA_on hc] at h
      have := linesA_sizes t (cur ++ [c]) x h
      simp at this ⊢
      omega
end Go.Proofs.YtdadagbkkaeejaaGreatDoor

/- Which names are right: the program's rightWord and the document's word answer one plain function of the bytes. -/
namespace Go.Proofs.YtdadagbkkaeejaaGreatDoor
open Go.RowKit

def okc (colons : Bool) (i : Nat) (c : Int) : Bool := decide (97 ≤ c ∧ c ≤ 122) || decide (65 ≤ c ∧ c ≤ 90) || decide (c = 95) || (decide (48 ≤ c ∧ c ≤ 57) && decide (0 < i)) || (decide (c = 58) && colons)
def upTo (colons : Bool) (s : ByteArray) (k : Nat) : Prop := ∀ i (h : i < s.size), i < k → okc colons i s[i].toNat = true
def wd (colons : Bool) (s : ByteArray) : Bool := decide (1 ≤ s.size ∧ s.size ≤ 1024) && decide (∀ i (h : i < s.size), okc colons i s[i].toNat = true)

theorem ret_bool {a b : Bool} (h : a = b) : Ending.returned (.bool a) = .returned (.bool b) := by rw [h]
theorem wd_bad {b : Bool} {s : ByteArray} (h : ¬ (1 ≤ s.size ∧ s.size ≤ 1024)) : wd b s = false := by simp [wd, h]
theorem wd_no {b : Bool} {s : ByteArray} (i : Nat) (h : i < s.size) (hc : okc b i s[i].toNat = false) : wd b s = false := by
  unfold wd
  rw [Bool.and_eq_false_iff]
  right
  rw [decide_eq_false_iff_not]
  intro hall
  have := hall i h
  rw [hc] at this
  cases this
theorem wd_ok {b : Bool} {s : ByteArray} (h1 : 1 ≤ s.size) (h2 : s.size ≤ 1024) (h : upTo b s s.size) : wd b s = true := by
  unfold wd
  rw [Bool.and_eq_true]
  exact ⟨by simp [h1, h2], by rw [decide_eq_true_iff]; exact fun i hi => h i hi hi⟩
theorem upTo_succ {b : Bool} {s : ByteArray} {k : Nat} (h : upTo b s k) (hk : k < s.size) (hc : okc b k s[k].toNat = true) : upTo b s (k + 1) := fun i hi hlt => by
  rcases Nat.lt_succ_iff_lt_or_eq.1 hlt with h1 | h1
  · exact h i hi h1
  · subst h1
    exact hc
theorem size_toList (s : ByteArray) : s.toList.length = s.size := by rw [ByteArray.toList_eq]; simp
theorem not_nil {s : ByteArray} (h : 1 ≤ s.size) : ¬ s.toList = [] := fun e => by
  have := size_toList s
  rw [e] at this
  simp at this
  omega
theorem not_empty {s : ByteArray} (h : 1 ≤ s.size) : s.toList.isEmpty = false := by
  have := not_nil h
  cases hs : s.toList
  · exact absurd hs this
  · rfl
theorem is_nil {s : ByteArray} (h : s.size = 0) : s.toList = [] := List.eq_nil_of_length_eq_zero (by rw [size_toList, h])
theorem is_empty {s : ByteArray} (h : s.size = 0) : s.toList.isEmpty = true := by rw [is_nil h]; rfl
theorem upTo_zero {b : Bool} {s : ByteArray} : upTo b s 0 := fun _i _ h => absurd h (Nat.not_lt_zero _)

set_option maxHeartbeats 1000000 in
theorem rightWord_any (s : ByteArray) (b : Bool) (w : World) :
    Calls Tryz.prog 94 #[.string s, .bool b] w fun e w' => e = .returned (.bool (wd b s)) ∧ w' = w := by
  by_cases hb : 1 ≤ s.size ∧ s.size ≤ 1024
  · obtain ⟨hb1, hb2⟩ := hb
    go_enter Tryz.func94, Tryz.ntmps94
    have hne := not_empty hb1
    have hne' := not_nil hb1
    go_wp2
    all_goals try (exfalso; simp_all; done)
    go_loop [16] (fun i => ∃ k : Nat, k ≤ s.size ∧ i = .int .i64 k ∧ Hid (upTo b s k)) (fun i => s.size - (intOf i).toNat)
    case atStart => exact ⟨0, Nat.zero_le _, rfl, upTo_zero⟩
    case round =>
      obtain ⟨k, hk, rfl, hall⟩ := hrel
      by_cases hlt : k < s.size
      · have hc := s[k].toNat_lt
        have HT : Hid (okc b k s[k].toNat = true → upTo b s (k + 1)) := fun h => upTo_succ hall.out hlt h
        have HF : Hid (okc b k s[k].toNat = false → wd b s = false) := fun h => wd_no k hlt h
        generalize hcc : s[k].toNat = c at *
        clear hall
        cases b
        all_goals
          go_wp2
          all_goals first
            | (go_ret; refine ⟨ret_bool (HF.out (by simp at *; simp [okc]; omega)).symm, rfl⟩)
            | (have HT' := HT.out (by simp at *; simp [okc]; omega)
               go_round
               case rel => exact ⟨k + 1, by omega, by go_num, HT'⟩
               case measure => simp [intOf]; omega)
      · have HN : Hid (wd b s = true) := wd_ok hb1 hb2 (by have : k = s.size := by omega
                                                           subst this; exact hall.out)
        clear hall
        go_wp2
        go_ret
        exact ⟨ret_bool HN.out.symm, rfl⟩
  · have HN : Hid (wd b s = false) := wd_bad hb
    go_enter Tryz.func94, Tryz.ntmps94
    by_cases h0 : s.size = 0
    · have hne := is_empty h0
      have hne' := is_nil h0
      go_wp2
      go_ret
      exact ⟨ret_bool HN.out.symm, rfl⟩
    · have h1 : 1024 < s.size := by omega
      have hne := not_empty (show 1 ≤ s.size by omega)
      have hne' := not_nil (show 1 ≤ s.size by omega)
      go_wp2
      all_goals try (exfalso; omega)
      go_ret
      exact ⟨ret_bool HN.out.symm, rfl⟩

theorem rightName_any (s : ByteArray) (w : World) :
    Calls Tryz.prog 78 #[.string s] w fun e w' => e = .returned (.bool (wd false s)) ∧ w' = w := by
  go_enter Tryz.func78, Tryz.ntmps78
  go_wp2_with (go_at_call 94; refine (rightWord_any _ _ _).mono ?_; rintro e w' ⟨rfl, rfl⟩)
  go_ret
  exact ⟨rfl, rfl⟩

theorem rightMetric_any (s : ByteArray) (w : World) :
    Calls Tryz.prog 79 #[.string s] w fun e w' => e = .returned (.bool (wd true s)) ∧ w' = w := by
  go_enter Tryz.func79, Tryz.ntmps79
  go_wp2_with (go_at_call 94; refine (rightWord_any _ _ _).mono ?_; rintro e w' ⟨rfl, rfl⟩)
  go_ret
  exact ⟨rfl, rfl⟩

end Go.Proofs.YtdadagbkkaeejaaGreatDoor

/- Lists of labels in memory. -/
namespace Go.Proofs.YtdadagbkkaeejaaGreatDoor
open Go.RowKit

theorem drewN_drewN (w : World) (a b : Nat) : (w.drewN a).drewN b = w.drewN (a + b) := by
  induction b with
  | zero => rfl
  | succ b ih => show ((w.drewN a).drewN b).drew = _; rw [ih]; rfl
theorem below_drewN {B : Nat} {a w : World} (h : Below B a w) : ∀ q, Below B a (w.drewN q)
  | 0 => h
  | q + 1 => (below_drewN h q).drew
abbrev Lb := ByteArray × ByteArray
def lbCells (l : List Lb) : List Value := l.flatMap fun e => [.string e.1, .string e.2]
theorem lbCells_length (l : List Lb) : (lbCells l).length = l.length * 2 := by
  induction l with
  | nil => rfl
  | cons a r ih => simp [lbCells] at *; omega
theorem lbCells_at (l : List Lb) (k : Nat) (hk : k < l.length) : (lbCells l)[k * 2]? = some (.string l[k].1) ∧ (lbCells l)[k * 2 + 1]? = some (.string l[k].2) := by
  induction l generalizing k with
  | nil => simp at hk
  | cons c r ih =>
    have e : lbCells (c :: r) = [.string c.1, .string c.2] ++ lbCells r := by simp [lbCells]
    cases k with
    | zero => simp [e]
    | succ k =>
      have h := ih k (by simpa using hk)
      constructor
      · rw [e, List.getElem?_append_right (by simp; omega), show (k + 1) * 2 - [Value.string c.1, Value.string c.2].length = k * 2 by simp; omega]; exact h.1
      · rw [e, List.getElem?_append_right (by simp; omega), show (k + 1) * 2 + 1 - [Value.string c.1, Value.string c.2].length = k * 2 + 1 by simp; omega]; exact h.2
theorem lbCells_snoc (l : List Lb) (x : Lb) : lbCells (l ++ [x]) = lbCells l ++ [.string x.1, .string x.2] := by simp [lbCells]
theorem lbCells_append (l m : List Lb) : lbCells (l ++ m) = lbCells l ++ lbCells m := by simp [lbCells]

theorem infoLb : (Tryz.prog.info? 62).map (fun i => (i.zero, i.size, i.bytes)) = some (some (.agg #[.string ByteArray.empty, .string ByteArray.empty]), 2, 32) := by kernel_rfl

/-- A slice that reads as these labels. -/
def LabsAt (w : World) (v : Value) (ls : List Lb) : Prop :=
  ∃ a c, v = .slice a ls.length c ∧ (ls.length ≤ c ∧ c ≤ maxLen) ∧ ∀ k (hk : k < ls.length), ∃ b o, a = some ⟨b, o, none⟩ ∧ b < w.heap.size ∧ w.cell? ⟨b, o + k * 2, none⟩ = some (.string ls[k].1) ∧ w.cell? ⟨b, o + k * 2 + 1, none⟩ = some (.string ls[k].2)
theorem LabsAt.below {w w' : World} {v : Value} {ls : List Lb} (h : LabsAt w v ls) (hb : Below w.heap.size w w') : LabsAt w' v ls := by
  obtain ⟨a, c, e, hlc, hk⟩ := h
  refine ⟨a, c, e, hlc, fun k hlt => ?_⟩
  obtain ⟨b, o, ha, hl, h1, h2⟩ := hk k hlt
  have := hb.size
  exact ⟨b, o, ha, by omega, (hb.cell (p := ⟨b, o + k * 2, none⟩) hl).trans h1, (hb.cell (p := ⟨b, o + k * 2 + 1, none⟩) hl).trans h2⟩
theorem LabsAt.of_row {w : World} {base : Nat} {v : Value} {ls : List Lb} (h : w.ownsRow base 62 2 v ls.length (lbCells ls)) : LabsAt w v ls := by
  rcases h.2 with ⟨e, h0⟩ | ⟨g, cap, cur, e, hg, hcur, hc1, hc2, _⟩
  · exact ⟨none, 0, by rw [e, h0], ⟨by omega, Nat.zero_le _⟩, fun k hk => by omega⟩
  · refine ⟨some ⟨g, 0, none⟩, cap, e, ⟨hc1, hc2⟩, fun k hk => ⟨g, 0, rfl, (Array.getElem?_eq_some_iff.1 hcur).1, ?_, ?_⟩⟩
    · have := h.cells (g := g) (by rw [e]; rfl) _ _ (lbCells_at ls k hk).1
      rw [Addr.add_lit, Nat.zero_add] at this
      rw [Nat.zero_add]; exact this
    · have := h.cells (g := g) (by rw [e]; rfl) _ _ (lbCells_at ls k hk).2
      rw [Addr.add_lit, Nat.zero_add] at this
      rw [Nat.zero_add]; exact this
theorem LabsAt.nil {w : World} {a : Option Addr} {c : Nat} (hc : c ≤ maxLen) : LabsAt w (.slice a 0 c) [] := ⟨a, c, rfl, ⟨Nat.zero_le _, hc⟩, fun _ hk => absurd hk (Nat.not_lt_zero _)⟩

def rl : List Lb → Bool
  | a :: b :: r => decide (a.1.toList < b.1.toList) && rl (b :: r)
  | _ => true
theorem rl_iff : ∀ ls : List Lb, rl ls = true ↔ ∀ k (h : k + 1 < ls.length), ls[k].1.toList < ls[k + 1].1.toList
  | [] => by simp [rl]
  | [a] => by simp [rl]
  | a :: b :: r => by
    simp only [rl, Bool.and_eq_true, decide_eq_true_eq, rl_iff (b :: r)]
    constructor
    · intro ⟨h1, h2⟩ k hk
      cases k with
      | zero => exact h1
      | succ k => exact h2 k (by simpa using hk)
    · intro h
      exact ⟨h 0 (by simp), fun k hk => h (k + 1) (by simpa using hk)⟩

set_option maxRecDepth 100000 in
set_option maxHeartbeats 1000000 in
theorem rising_any (v : Value) (ls : List Lb) (w : World) (h : LabsAt w v ls) (hl : ls.length ≤ 1000000) :
    Calls Tryz.prog 64 #[v] w fun e w' => e = .returned (.bool (rl ls)) ∧ ∃ q, w' = w.drewN q := by
  obtain ⟨a, c, rfl, -, hc⟩ := h
  have HC : Hid (∀ k (hk : k < ls.length), ∃ b o, a = some ⟨b, o, none⟩ ∧ b < w.heap.size ∧ w.cell? ⟨b, o + k * 2, none⟩ = some (.string ls[k].1) ∧ w.cell? ⟨b, o + k * 2 + 1, none⟩ = some (.string ls[k].2)) := hc
  clear hc
  go_enter Tryz.func64, Tryz.ntmps64
  go_wp2
  go_loopw [3] (fun i wr => ∃ k q : Nat, 1 ≤ k ∧ (k ≤ ls.length ∨ k = 1) ∧ i = .int .i64 k ∧ wr = w.drewN q ∧ Hid (∀ j (h : j + 1 < ls.length), j + 1 < k → ls[j].1.toList < ls[j + 1].1.toList)) (fun i _ => ls.length - (intOf i).toNat)
  case atStart => exact ⟨1, 0, by omega, Or.inr rfl, rfl, rfl, fun j h hj => by omega⟩
  case round =>
    obtain ⟨k, q, hk1, hk, rfl, rfl, hall⟩ := hrel
    by_cases hlt : k < ls.length
    · obtain ⟨b, o, rfl, hb, h0, _⟩ := HC.out k hlt
      obtain ⟨j, rfl⟩ : ∃ j, k = j + 1 := ⟨k - 1, by omega⟩
      obtain ⟨b', o', e, hb', h0', _⟩ := HC.out j (by omega)
      cases e
      have hj1 : (j : Int) < (ls.length : Int) := by omega
      have hj2 : ((j : Int) + 1) < (ls.length : Int) := by omega
      obtain ⟨x, hx⟩ : ∃ x, x = ls[j].1 := ⟨_, rfl⟩
      obtain ⟨y, hy⟩ : ∃ y, y = ls[j + 1].1 := ⟨_, rfl⟩
      have HX : Hid (ls[j].1 = x ∧ ls[j + 1].1 = y) := ⟨hx.symm, hy.symm⟩
      rw [← hy] at h0
      have h0' : w.cell? ⟨b, o + j * 2, none⟩ = some (.string x) := by rw [hx]; exact h0'
      clear hx hy HC
      generalize hw : w.drewN q = wr
      have c0 : wr.cell? ⟨b, o + (j + 1) * 2, none⟩ = some (.string y) := by rw [← hw]; simpa using h0
      have c1 : wr.cell? ⟨b, o + j * 2, none⟩ = some (.string x) := by rw [← hw]; simpa using h0'
      have HW : Hid (w.drewN q = wr) := hw
      clear hw h0 h0'
      cases hxy : Op.bytesLess x.toList y.toList
      · have HN : Hid (rl ls = false) := by
          show _ = _
          rw [Bool.eq_false_iff]
          intro hr
          have h1 := (rl_iff ls).1 hr j hlt
          rw [HX.out.1, HX.out.2] at h1
          rw [Go.Proofs.bytesLess_eq, decide_eq_false_iff_not] at hxy
          exact hxy h1
        go_wp2
        go_quiet (fail)
        go_wp2
        go_ret
        exact ⟨ret_bool HN.out.symm, q + nq, by rw [← HW.out, drewN_drewN]⟩
      · have HN : Hid (∀ i (h : i + 1 < ls.length), i + 1 < j + 1 + 1 → ls[i].1.toList < ls[i + 1].1.toList) := fun i h hi => by
          rcases Nat.lt_succ_iff_lt_or_eq.1 hi with h1 | h1
          · exact hall.out i h h1
          · have : i = j := by omega
            subst this
            rw [HX.out.1, HX.out.2]
            rw [Go.Proofs.bytesLess_eq, decide_eq_true_iff] at hxy
            exact hxy
        go_wp2
        go_quiet (fail)
        go_wp2
        go_roundw
        case rel => exact ⟨j + 1 + 1, q + nq, by omega, by omega, by go_num, by rw [← HW.out, drewN_drewN], HN⟩
        case measure => simp [intOf]; omega
    · have HN : Hid (rl ls = true) := (rl_iff ls).2 fun i h => hall.out i h (by omega)
      clear hall HC
      go_wp2
      go_ret
      exact ⟨ret_bool HN.out.symm, q, rfl⟩

end Go.Proofs.YtdadagbkkaeejaaGreatDoor

/- A slice that reads as texts. -/
namespace Go.Proofs.YtdadagbkkaeejaaGreatDoor
open Go.RowKit

/-- A slice that reads as these texts. -/
def TextsAt (w : World) (v : Value) (ss : List ByteArray) : Prop :=
  ∃ a c, v = .slice a ss.length c ∧ (ss.length ≤ c ∧ c ≤ maxLen) ∧ ∀ k (hk : k < ss.length), ∃ b o, a = some ⟨b, o, none⟩ ∧ b < w.heap.size ∧ w.cell? ⟨b, o + k, none⟩ = some (.string ss[k]) ∧ ss[k].size ≤ maxLen
theorem TextsAt.below {w w' : World} {v : Value} {ss : List ByteArray} (h : TextsAt w v ss) (hb : Below w.heap.size w w') : TextsAt w' v ss := by
  obtain ⟨a, c, e, hlc, hk⟩ := h
  refine ⟨a, c, e, hlc, fun k hlt => ?_⟩
  obtain ⟨b, o, ha, hl, h1, h2⟩ := hk k hlt
  have := hb.size
  exact ⟨b, o, ha, by omega, (hb.cell (p := ⟨b, o + k, none⟩) hl).trans h1, h2⟩
theorem TextsAt.one {w : World} {a : Option Addr} {c : Nat} {ss : List ByteArray} (h : TextsAt w (.slice a ss.length c) ss) (k : Nat) (hk : k < ss.length) : ∃ b o, a = some ⟨b, o, none⟩ ∧ ss[k].size ≤ maxLen ∧ ∀ w', Below w.heap.size w w' → w'.cell? ⟨b, o + k, none⟩ = some (.string ss[k]) := by
  obtain ⟨a', c', e, -, hc⟩ := h
  cases e
  obtain ⟨b, o, rfl, hb, h1, h2⟩ := hc k hk
  exact ⟨b, o, rfl, h2, fun w' hb' => (hb'.cell (p := ⟨b, o + k, none⟩) hb).trans h1⟩

end Go.Proofs.YtdadagbkkaeejaaGreatDoor

/- A set is asked: the document's Has and Get, the program's Get. -/
namespace Go.Proofs.YtdadagbkkaeejaaGreatDoor
open Go.RowKit

def hasL (ls : List Lb) (n : ByteArray) : Bool := ls.any fun x => x.1.toList == n.toList
def getL (ls : List Lb) (n : ByteArray) : ByteArray := ((ls.find? fun x => x.1.toList == n.toList).map (·.2)).getD ⟨#[]⟩
def Not (ls : List Lb) (n : ByteArray) (k : Nat) : Prop := ∀ i (h : i < ls.length), i < k → (ls[i].1.toList == n.toList) = false
theorem Not.zero {ls : List Lb} {n : ByteArray} : Not ls n 0 := fun _ _ h => absurd h (Nat.not_lt_zero _)
theorem Not.succ {ls : List Lb} {n : ByteArray} {k : Nat} (h : Not ls n k) (hk : k < ls.length) (hc : (ls[k].1.toList == n.toList) = false) : Not ls n (k + 1) := fun i hi hlt => by
  rcases Nat.lt_succ_iff_lt_or_eq.1 hlt with h1 | h1
  · exact h i hi h1
  · subst h1; exact hc
theorem Not.find {ls : List Lb} {n : ByteArray} {k : Nat} (h : Not ls n k) (hk : k < ls.length) (hc : (ls[k].1.toList == n.toList) = true) : ls.find? (fun x => x.1.toList == n.toList) = some ls[k] := by
  rw [List.find?_eq_some_iff_getElem]
  refine ⟨hc, k, hk, rfl, fun j hj => ?_⟩
  simp only [Bool.not_eq_true', h j (by omega) hj]
theorem Not.none {ls : List Lb} {n : ByteArray} (h : Not ls n ls.length) : ls.find? (fun x => x.1.toList == n.toList) = none := by
  rw [List.find?_eq_none]
  intro x hx
  obtain ⟨i, hi, rfl⟩ := List.getElem_of_mem hx
  simp [h i hi hi]
theorem hasL_find (ls : List Lb) (n : ByteArray) : hasL ls n = (ls.find? fun x => x.1.toList == n.toList).isSome := by
  unfold hasL
  rw [List.isSome_find?]
theorem getL_find (ls : List Lb) (n : ByteArray) : getL ls n = ((ls.find? fun x => x.1.toList == n.toList).map (·.2)).getD ⟨#[]⟩ := rfl
theorem ret_str {a b : ByteArray} (h : a = b) : Ending.returned (.string a) = .returned (.string b) := by rw [h]

/-- One label of a list, in a world that came of the list's. -/
theorem LabsAt.one {w : World} {a : Option Addr} {c : Nat} {ls : List Lb} (h : LabsAt w (.slice a ls.length c) ls) (k : Nat) (hk : k < ls.length) : ∃ b o, a = some ⟨b, o, none⟩ ∧ ∀ w', Below w.heap.size w w' → w'.cell? ⟨b, o + k * 2, none⟩ = some (.string ls[k].1) ∧ w'.cell? ⟨b, o + k * 2 + 1, none⟩ = some (.string ls[k].2) := by
  obtain ⟨a', c', e, -, hc⟩ := h
  cases e
  obtain ⟨b, o, rfl, hb, h1, h2⟩ := hc k hk
  exact ⟨b, o, rfl, fun w' hb' => ⟨(hb'.cell (p := ⟨b, o + k * 2, none⟩) hb).trans h1, (hb'.cell (p := ⟨b, o + k * 2 + 1, none⟩) hb).trans h2⟩⟩

end Go.Proofs.YtdadagbkkaeejaaGreatDoor
