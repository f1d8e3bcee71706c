/- Lists of labels in memory. -/
import Derived.Test.YtlfcnekmdojabaaDoorL1
import Derived.Deep.AppendLies
import Derived.Deep.Light
import Derived.Below
import Derived.Deep.QuietTactic
import Derived.BigQuiet
import Derived.Sort.Walk0
namespace Go.Proofs.YtlfcnekmdojabaaDoor
open Go.RowKit

theorem drewN_drewN (w : World) (a b : Nat) : (w.drewN a).drewN b = w.drewN (a + b) := by
  induction b with
  | zero => rfl
  | succ b ih => show ((w.drewN a).drewN b).drew = _; rw [ih]; rfl
theorem below_drewN {B : Nat} {a w : World} (h : Below B a w) : ∀ q, Below B a (w.drewN q)
  | 0 => h
  | q + 1 => (below_drewN h q).drew
abbrev Lb := ByteArray × ByteArray
def lbCells (l : List Lb) : List Value := l.flatMap fun e => [.string e.1, .string e.2]
theorem lbCells_length (l : List Lb) : (lbCells l).length = l.length * 2 := by
  induction l with
  | nil => rfl
  | cons a r ih => simp [lbCells] at *; omega
theorem lbCells_at (l : List Lb) (k : Nat) (hk : k < l.length) : (lbCells l)[k * 2]? = some (.string l[k].1) ∧ (lbCells l)[k * 2 + 1]? = some (.string l[k].2) := by
  induction l generalizing k with
  | nil => simp at hk
  | cons c r ih =>
    have e : lbCells (c :: r) = [.string c.1, .string c.2] ++ lbCells r := by simp [lbCells]
    cases k with
    | zero => simp [e]
    | succ k =>
      have h := ih k (by simpa using hk)
      constructor
      · rw [e, List.getElem?_append_right (by simp; omega), show (k + 1) * 2 - [Value.string c.1, Value.string c.2].length = k * 2 by simp; omega]; exact h.1
      · rw [e, List.getElem?_append_right (by simp; omega), show (k + 1) * 2 + 1 - [Value.string c.1, Value.string c.2].length = k * 2 + 1 by simp; omega]; exact h.2
theorem lbCells_snoc (l : List Lb) (x : Lb) : lbCells (l ++ [x]) = lbCells l ++ [.string x.1, .string x.2] := by simp [lbCells]
theorem lbCells_append (l m : List Lb) : lbCells (l ++ m) = lbCells l ++ lbCells m := by simp [lbCells]

theorem infoLb : (Tryd.prog.info? 28).map (fun i => (i.zero, i.size, i.bytes)) = some (some (.agg #[.string ByteArray.empty, .string ByteArray.empty]), 2, 32) := by kernel_rfl

/-- A slice that reads as these labels. -/
def LabsAt (w : World) (v : Value) (ls : List Lb) : Prop :=
  ∃ a c, v = .slice a ls.length c ∧ (ls.length ≤ c ∧ c ≤ maxLen) ∧ ∀ k (hk : k < ls.length), ∃ b o, a = some ⟨b, o, none⟩ ∧ b < w.heap.size ∧ w.cell? ⟨b, o + k * 2, none⟩ = some (.string ls[k].1) ∧ w.cell? ⟨b, o + k * 2 + 1, none⟩ = some (.string ls[k].2)
theorem LabsAt.below {w w' : World} {v : Value} {ls : List Lb} (h : LabsAt w v ls) (hb : Below w.heap.size w w') : LabsAt w' v ls := by
  obtain ⟨a, c, e, hlc, hk⟩ := h
  refine ⟨a, c, e, hlc, fun k hlt => ?_⟩
  obtain ⟨b, o, ha, hl, h1, h2⟩ := hk k hlt
  have := hb.size
  exact ⟨b, o, ha, by omega, (hb.cell (p := ⟨b, o + k * 2, none⟩) hl).trans h1, (hb.cell (p := ⟨b, o + k * 2 + 1, none⟩) hl).trans h2⟩
theorem LabsAt.of_row {w : World} {base : Nat} {v : Value} {ls : List Lb} (h : w.ownsRow base 28 2 v ls.length (lbCells ls)) : LabsAt w v ls := by
  rcases h.2 with ⟨e, h0⟩ | ⟨g, cap, cur, e, hg, hcur, hc1, hc2, _⟩
  · exact ⟨none, 0, by rw [e, h0], ⟨by omega, Nat.zero_le _⟩, fun k hk => by omega⟩
  · refine ⟨some ⟨g, 0, none⟩, cap, e, ⟨hc1, hc2⟩, fun k hk => ⟨g, 0, rfl, (Array.getElem?_eq_some_iff.1 hcur).1, ?_, ?_⟩⟩
    · have := h.cells (g := g) (by rw [e]; rfl) _ _ (lbCells_at ls k hk).1
      rw [Addr.add_lit, Nat.zero_add] at this
      rw [Nat.zero_add]; exact this
    · have := h.cells (g := g) (by rw [e]; rfl) _ _ (lbCells_at ls k hk).2
      rw [Addr.add_lit, Nat.zero_add] at this
      rw [Nat.zero_add]; exact this
theorem LabsAt.nil {w : World} {a : Option Addr} {c : Nat} (hc : c ≤ maxLen) : LabsAt w (.slice a 0 c) [] := ⟨a, c, rfl, ⟨Nat.zero_le _, hc⟩, fun _ hk => absurd hk (Nat.not_lt_zero _)⟩

def rl : List Lb → Bool
  | a :: b :: r => decide (a.1.toList < b.1.toList) && rl (b :: r)
  | _ => true
theorem rl_iff : ∀ ls : List Lb, rl ls = true ↔ ∀ k (h : k + 1 < ls.length), ls[k].1.toList < ls[k + 1].1.toList
  | [] => by simp [rl]
  | [a] => by simp [rl]
  | a :: b :: r => by
    simp only [rl, Bool.and_eq_true, decide_eq_true_eq, rl_iff (b :: r)]
    constructor
    · intro ⟨h1, h2⟩ k hk
      cases k with
      | zero => exact h1
      | succ k => exact h2 k (by simpa using hk)
    · intro h
      exact ⟨h 0 (by simp), fun k hk => h (k + 1) (by simpa using hk)⟩

set_option maxRecDepth 100000 in
set_option maxHeartbeats 1000000 in
theorem rising_any (v : Value) (ls : List Lb) (w : World) (h : LabsAt w v ls) (hl : ls.length ≤ 1000000) :
    Calls Tryd.prog 23 #[v] w fun e w' => e = .returned (.bool (rl ls)) ∧ ∃ q, w' = w.drewN q := by
  obtain ⟨a, c, rfl, -, hc⟩ := h
  have HC : Hid (∀ k (hk : k < ls.length), ∃ b o, a = some ⟨b, o, none⟩ ∧ b < w.heap.size ∧ w.cell? ⟨b, o + k * 2, none⟩ = some (.string ls[k].1) ∧ w.cell? ⟨b, o + k * 2 + 1, none⟩ = some (.string ls[k].2)) := hc
  clear hc
  go_enter Tryd.func23, Tryd.ntmps23
  go_wp2
  go_loopw [3] (fun i wr => ∃ k q : Nat, 1 ≤ k ∧ (k ≤ ls.length ∨ k = 1) ∧ i = .int .i64 k ∧ wr = w.drewN q ∧ Hid (∀ j (h : j + 1 < ls.length), j + 1 < k → ls[j].1.toList < ls[j + 1].1.toList)) (fun i _ => ls.length - (intOf i).toNat)
  case atStart => exact ⟨1, 0, by omega, Or.inr rfl, rfl, rfl, fun j h hj => by omega⟩
  case round =>
    obtain ⟨k, q, hk1, hk, rfl, rfl, hall⟩ := hrel
    by_cases hlt : k < ls.length
    · obtain ⟨b, o, rfl, hb, h0, _⟩ := HC.out k hlt
      obtain ⟨j, rfl⟩ : ∃ j, k = j + 1 := ⟨k - 1, by omega⟩
      obtain ⟨b', o', e, hb', h0', _⟩ := HC.out j (by omega)
      cases e
      have hj1 : (j : Int) < (ls.length : Int) := by omega
      have hj2 : ((j : Int) + 1) < (ls.length : Int) := by omega
      obtain ⟨x, hx⟩ : ∃ x, x = ls[j].1 := ⟨_, rfl⟩
      obtain ⟨y, hy⟩ : ∃ y, y = ls[j + 1].1 := ⟨_, rfl⟩
      have HX : Hid (ls[j].1 = x ∧ ls[j + 1].1 = y) := ⟨hx.symm, hy.symm⟩
      rw [← hy] at h0
      have h0' : w.cell? ⟨b, o + j * 2, none⟩ = some (.string x) := by rw [hx]; exact h0'
      clear hx hy HC
      generalize hw : w.drewN q = wr
      have c0 : wr.cell? ⟨b, o + (j + 1) * 2, none⟩ = some (.string y) := by rw [← hw]; simpa using h0
      have c1 : wr.cell? ⟨b, o + j * 2, none⟩ = some (.string x) := by rw [← hw]; simpa using h0'
      have HW : Hid (w.drewN q = wr) := hw
      clear hw h0 h0'
      cases hxy : Op.bytesLess x.toList y.toList
      · have HN : Hid (rl ls = false) := by
          show _ = _
          rw [Bool.eq_false_iff]
          intro hr
          have h1 := (rl_iff ls).1 hr j hlt
          rw [HX.out.1, HX.out.2] at h1
          rw [Go.Proofs.bytesLess_eq, decide_eq_false_iff_not] at hxy
          exact hxy h1
        go_wp2
        go_quiet (fail)
        go_wp2
        go_ret
        exact ⟨ret_bool HN.out.symm, q + nq, by rw [← HW.out, drewN_drewN]⟩
      · have HN : Hid (∀ i (h : i + 1 < ls.length), i + 1 < j + 1 + 1 → ls[i].1.toList < ls[i + 1].1.toList) := fun i h hi => by
          rcases Nat.lt_succ_iff_lt_or_eq.1 hi with h1 | h1
          · exact hall.out i h h1
          · have : i = j := by omega
            subst this
            rw [HX.out.1, HX.out.2]
            rw [Go.Proofs.bytesLess_eq, decide_eq_true_iff] at hxy
            exact hxy
        go_wp2
        go_quiet (fail)
        go_wp2
        go_roundw
        case rel => exact ⟨j + 1 + 1, q + nq, by omega, by omega, by go_num, by rw [← HW.out, drewN_drewN], HN⟩
        case measure => simp [intOf]; omega
    · have HN : Hid (rl ls = true) := (rl_iff ls).2 fun i h => hall.out i h (by omega)
      clear hall HC
      go_wp2
      go_ret
      exact ⟨ret_bool HN.out.symm, q, rfl⟩

end Go.Proofs.YtlfcnekmdojabaaDoor
