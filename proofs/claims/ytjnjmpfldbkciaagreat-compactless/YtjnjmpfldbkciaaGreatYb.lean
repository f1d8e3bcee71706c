/- labels.Compare. -/
import Derived.Test.YtjnjmpfldbkciaaGreatYa
import Derived.Test.YtjnjmpfldbkciaaGreatYs
namespace Go.Proofs.YtjnjmpfldbkciaaGreat
open Go.RowKit Go.Shelf

abbrev Lb := ByteArray × ByteArray
abbrev Sm := Int × Nat
abbrev Ser := List Lb × List Sm
def lbC (l : List Lb) : List Value := l.flatMap fun e => [.string e.1, .string e.2]
def smC (l : List Sm) : List Value := l.flatMap fun e => [.int .i64 e.1, .float .f64 e.2]
theorem lbC_length (l : List Lb) : (lbC l).length = l.length * 2 := by
  induction l with
  | nil => rfl
  | cons a r ih => simp [lbC] at *; omega
theorem lbC_at (l : List Lb) (k : Nat) (hk : k < l.length) : (lbC l)[k * 2]? = some (.string l[k].1) ∧ (lbC l)[k * 2 + 1]? = some (.string l[k].2) := by
  induction l generalizing k with
  | nil => simp at hk
  | cons c r ih =>
    have e : lbC (c :: r) = [.string c.1, .string c.2] ++ lbC r := by simp [lbC]
    cases k with
    | zero => simp [e]
    | succ k =>
      have h := ih k (by simpa using hk)
      constructor
      · rw [e, List.getElem?_append_right (by simp; omega), show (k + 1) * 2 - [Value.string c.1, Value.string c.2].length = k * 2 by simp; omega]; exact h.1
      · rw [e, List.getElem?_append_right (by simp; omega), show (k + 1) * 2 + 1 - [Value.string c.1, Value.string c.2].length = k * 2 + 1 by simp; omega]; exact h.2
theorem lbC_one (l : List Lb) : ∀ u ∈ lbC l, u.oneCell' = true := fun u hu => by
  simp only [lbC, List.mem_flatMap] at hu
  obtain ⟨x, _, hx⟩ := hu
  simp at hx
  rcases hx with rfl | rfl <;> rfl
theorem smC_length (l : List Sm) : (smC l).length = l.length * 2 := by
  induction l with
  | nil => rfl
  | cons a r ih => simp [smC] at *; omega
theorem smC_at (l : List Sm) (k : Nat) (hk : k < l.length) : (smC l)[k * 2]? = some (.int .i64 l[k].1) ∧ (smC l)[k * 2 + 1]? = some (.float .f64 l[k].2) := by
  induction l generalizing k with
  | nil => simp at hk
  | cons c r ih =>
    have e : smC (c :: r) = [.int .i64 c.1, .float .f64 c.2] ++ smC r := by simp [smC]
    cases k with
    | zero => simp [e]
    | succ k =>
      have h := ih k (by simpa using hk)
      constructor
      · rw [e, List.getElem?_append_right (by simp; omega), show (k + 1) * 2 - [Value.int .i64 c.1, Value.float .f64 c.2].length = k * 2 by simp; omega]; exact h.1
      · rw [e, List.getElem?_append_right (by simp; omega), show (k + 1) * 2 + 1 - [Value.int .i64 c.1, Value.float .f64 c.2].length = k * 2 + 1 by simp; omega]; exact h.2
theorem smC_one (l : List Sm) : ∀ u ∈ smC l, u.oneCell' = true := fun u hu => by
  simp only [smC, List.mem_flatMap] at hu
  obtain ⟨x, _, hx⟩ := hu
  simp at hx
  rcases hx with rfl | rfl <;> rfl
theorem smC_append (l m : List Sm) : smC (l ++ m) = smC l ++ smC m := by simp [smC]
theorem lbC_append (l m : List Lb) : lbC (l ++ m) = lbC l ++ lbC m := by simp [lbC]

/-- A slice that reads as labels, as samples. -/
def LbAt (w : World) (v : Value) (l : List Lb) : Prop := RowAt w v 2 l.length (lbC l)
def SmAt (w : World) (v : Value) (l : List Sm) : Prop := RowAt w v 2 l.length (smC l)
theorem LbAt.one {w : World} {a : Option Addr} {c : Nat} {l : List Lb} (h : LbAt w (.slice a l.length c) l) (k : Nat) (hk : k < l.length) : ∃ b o, a = some ⟨b, o, none⟩ ∧ ∀ w', Below w.heap.size w w' → w'.cell? ⟨b, o + k * 2, none⟩ = some (.string l[k].1) ∧ w'.cell? ⟨b, o + k * 2 + 1, none⟩ = some (.string l[k].2) := by
  obtain ⟨b, o, e, h1⟩ := RowAt.one h (lbC_at l k hk).1
  obtain ⟨b', o', e', h2⟩ := RowAt.one h (lbC_at l k hk).2
  subst e
  cases e'
  exact ⟨b, o, rfl, fun w' hb => ⟨h1 w' hb, h2 w' hb⟩⟩
theorem SmAt.one {w : World} {a : Option Addr} {c : Nat} {l : List Sm} (h : SmAt w (.slice a l.length c) l) (k : Nat) (hk : k < l.length) : ∃ b o, a = some ⟨b, o, none⟩ ∧ ∀ w', Below w.heap.size w w' → w'.cell? ⟨b, o + k * 2, none⟩ = some (.int .i64 l[k].1) ∧ w'.cell? ⟨b, o + k * 2 + 1, none⟩ = some (.float .f64 l[k].2) := by
  obtain ⟨b, o, e, h1⟩ := RowAt.one h (smC_at l k hk).1
  obtain ⟨b', o', e', h2⟩ := RowAt.one h (smC_at l k hk).2
  subst e
  cases e'
  exact ⟨b, o, rfl, fun w' hb => ⟨h1 w' hb, h2 w' hb⟩⟩

def cb (a b : ByteArray) : Int := Lib.compareBytes a.data.toList b.data.toList
def cmpLb (x y : Lb) : Int := if cb x.1 y.1 = 0 then cb x.2 y.2 else cb x.1 y.1
def cmpL : List Lb → List Lb → Int
  | [], [] => 0
  | [], _ :: _ => -1
  | _ :: _, [] => 1
  | x :: a, y :: b => if cmpLb x y = 0 then cmpL a b else cmpLb x y

theorem strCompare_any (a b : ByteArray) (w : World) : Calls Tryz.prog 68 #[.string a, .string b] w fun e w' => e = .returned (.int .i64 (cb a b)) ∧ w' = w :=
  Any.strings_Compare Tryz.lays106 a b w

set_option maxRecDepth 100000 in
set_option maxHeartbeats 1000000 in
theorem compareLabel_any (x y : Lb) (w : World) :
    Calls Tryz.prog 40 #[.agg #[.string x.1, .string x.2], .agg #[.string y.1, .string y.2]] w fun e w' => e = .returned (.int .i64 (cmpLb x y)) ∧ Below w.heap.size w w' := by
  obtain ⟨a, b⟩ := x
  obtain ⟨c, d⟩ := y
  unfold cmpLb
  dsimp only
  have hC1 := fun W => strCompare_any a c W
  have hC2 := fun W => strCompare_any b d W
  have HB : Hid (∀ o1 o2, Below w.heap.size w ((w.alloc o1).alloc o2)) := fun o1 o2 => ((Below.refl _ _).alloc (Nat.le_refl _) _).alloc (by simp) _
  generalize cb a c = r1 at *
  generalize cb b d = r2 at *
  by_cases h1 : r1 = 0
  · subst h1
    go_enter Tryz.func40, Tryz.ntmps40
    go_wp2_with (first
      | (go_at_call 68; refine (hC1 _).mono ?_; clear hC1; rintro e w' ⟨rfl, rfl⟩)
      | (go_at_call 68; refine (hC2 _).mono ?_; rintro e w' ⟨rfl, rfl⟩))
    go_ret
    exact ⟨rfl, HB.out _ _⟩
  · rw [if_neg h1]
    go_enter Tryz.func40, Tryz.ntmps40
    go_wp2_with (first
      | (go_at_call 68; refine (hC1 _).mono ?_; clear hC1; rintro e w' ⟨rfl, rfl⟩))
    go_ret
    exact ⟨rfl, HB.out _ _⟩

theorem cmpL_drop {ls ms : List Lb} {k : Nat} (h1 : k < ls.length) (h2 : k < ms.length) : cmpL (ls.drop k) (ms.drop k) = if cmpLb ls[k] ms[k] = 0 then cmpL (ls.drop (k + 1)) (ms.drop (k + 1)) else cmpLb ls[k] ms[k] := by
  rw [List.drop_eq_getElem_cons h1, List.drop_eq_getElem_cons h2]
  rfl

set_option maxRecDepth 100000 in
set_option maxHeartbeats 1500000 in
theorem compareFunc_any (v u : Value) (ls ms : List Lb) (w : World) (h : LbAt w v ls) (hm : LbAt w u ms) (hl : ls.length ≤ 1000000) (_hl2 : ms.length ≤ 1000000) :
    Calls Tryz.prog 39 #[v, u, .func (.func 40) #[] #[]] w fun e w' => e = .returned (.int .i64 (cmpL ls ms)) ∧ Below w.heap.size w w' := by
  obtain ⟨a, c, rfl, -⟩ := id h
  obtain ⟨a2, c2, rfl, -⟩ := id hm
  have HC : Hid (LbAt w (.slice a ls.length c) ls) := h
  have HM : Hid (LbAt w (.slice a2 ms.length c2) ms) := hm
  have heC : ∀ args w, (callFunc 40 args).run Tryz.prog w = .ok (.enter 40 args) w := enters_of Tryz.func40 (by kernel_rfl) rfl
  clear h hm
  go_enter Tryz.func39, Tryz.ntmps39
  go_wp2
  go_loopw [13] (fun i wr => ∃ k : Nat, k ≤ ls.length ∧ k ≤ ms.length ∧ i = .int .i64 k ∧ Hid (cmpL (ls.drop k) (ms.drop k) = cmpL ls ms) ∧ Hid (Below w.heap.size w wr)) (fun i _ => ls.length - (intOf i).toNat)
  case atStart => exact ⟨0, Nat.zero_le _, Nat.zero_le _, rfl, rfl, Below.refl _ _⟩
  case round =>
    obtain ⟨k, hk, hk2, rfl, hall, hbel⟩ := hrel
    have hbW := hbel.out
    have hsW := hbW.size
    by_cases hlt : k < ls.length
    · obtain ⟨b, o, rfl, hone⟩ := HC.out.one k hlt
      obtain ⟨g0, g1⟩ := hone wr hbel.out
      obtain ⟨x, hx⟩ : ∃ x, x = ls[k] := ⟨_, rfl⟩
      rw [← hx] at g0 g1
      by_cases hlt2 : k < ms.length
      · obtain ⟨b2, o2, rfl, hone2⟩ := HM.out.one k hlt2
        obtain ⟨y, hy⟩ : ∃ y, y = ms[k] := ⟨_, rfl⟩
        rw [← hy] at hone2
        have HST : Hid (cmpL ls ms = if cmpLb x y = 0 then cmpL (ls.drop (k + 1)) (ms.drop (k + 1)) else cmpLb x y) := by
          show _ = _
          rw [← hall.out, cmpL_drop hlt hlt2, hx, hy]
        obtain ⟨x1, x2⟩ := x
        obtain ⟨y1, y2⟩ := y
        dsimp only at g0 g1 hone2
        have hb1 : Below w.heap.size w (wr.alloc (.cells #[.string x1, .string x2] 53)) := hbW.alloc hsW _
        obtain ⟨e0, e1⟩ := hone2 _ hb1
        have hb2 : Below w.heap.size w ((wr.alloc (.cells #[.string x1, .string x2] 53)).alloc (.cells #[.string y1, .string y2] 53)) := hb1.alloc hb1.size _
        have hcmp := compareLabel_any (x1, x2) (y1, y2) ((wr.alloc (.cells #[.string x1, .string x2] 53)).alloc (.cells #[.string y1, .string y2] 53))
        have HB2 : Hid (∀ w', Below ((wr.alloc (.cells #[.string x1, .string x2] 53)).alloc (.cells #[.string y1, .string y2] 53)).heap.size ((wr.alloc (.cells #[.string x1, .string x2] 53)).alloc (.cells #[.string y1, .string y2] 53)) w' → Below w.heap.size w w') := fun w' hb => hb2.trans (hb.mono hb2.size)
        clear hx hy hone hone2 hall hb1 hb2 hbW
        generalize cmpLb (x1, x2) (y1, y2) = r at *
        by_cases hr : r = 0
        · subst hr
          go_wp2_with (go_at_call 40; refine hcmp.mono ?_; rintro e w' ⟨rfl, hb3⟩)
          go_roundw
          case rel => exact ⟨k + 1, by omega, by omega, by go_num, by show _ = _; rw [HST.out]; simp, HB2.out _ hb3⟩
          case measure => simp [intOf]; omega
        · have HR : Hid (cmpL ls ms = r) := by show _ = _; rw [HST.out, if_neg hr]
          clear HST
          go_wp2_with (go_at_call 40; refine hcmp.mono ?_; rintro e w' ⟨rfl, hb3⟩)
          go_ret
          exact ⟨by rw [HR.out]; rfl, HB2.out _ hb3⟩
      · have HR : Hid (cmpL ls ms = 1) := by
          show _ = _
          rw [← hall.out, List.drop_of_length_le (show ms.length ≤ k by omega), List.drop_eq_getElem_cons hlt]
          rfl
        obtain ⟨x1, x2⟩ := x
        dsimp only at g0 g1
        have HB2 : Hid (∀ o, Below w.heap.size w (wr.alloc o)) := fun o => hbW.alloc hsW o
        clear hx hone hall hbW
        go_wp2
        go_ret
        exact ⟨by rw [HR.out]; rfl, HB2.out _⟩
    · by_cases hlt2 : ls.length < ms.length
      · have HR : Hid (cmpL ls ms = -1) := by
          show _ = _
          have e9 : k < ms.length := by omega
          rw [← hall.out, List.drop_of_length_le (show ls.length ≤ k by omega), List.drop_eq_getElem_cons e9]
          rfl
        clear hall HC HM
        go_wp2
        go_ret
        exact ⟨by rw [HR.out]; rfl, hbel.out⟩
      · have HR : Hid (cmpL ls ms = 0) := by
          show _ = _
          rw [← hall.out, List.drop_of_length_le (show ls.length ≤ k by omega), List.drop_of_length_le (show ms.length ≤ k by omega)]
          rfl
        clear hall HC HM
        go_wp2
        go_ret
        exact ⟨by rw [HR.out]; rfl, hbel.out⟩

theorem compare_sets (v u : Value) (ls ms : List Lb) (w : World) (h : LbAt w v ls) (hm : LbAt w u ms) (hl : ls.length ≤ 1000000) (hl2 : ms.length ≤ 1000000) :
    Calls Tryz.prog 23 #[v, u] w fun e w' => e = .returned (.int .i64 (cmpL ls ms)) ∧ Below w.heap.size w w' := by
  have hc := compareFunc_any v u ls ms w h hm hl hl2
  obtain ⟨a, c, rfl, -⟩ := id h
  obtain ⟨a2, c2, rfl, -⟩ := id hm
  clear h hm
  generalize cmpL ls ms = r at *
  go_enter Tryz.func23, Tryz.ntmps23
  go_wp2_with (go_at_call 39; refine hc.mono ?_; rintro e w' ⟨rfl, hb⟩)
  go_ret
  exact ⟨rfl, hb⟩

end Go.Proofs.YtjnjmpfldbkciaaGreat
