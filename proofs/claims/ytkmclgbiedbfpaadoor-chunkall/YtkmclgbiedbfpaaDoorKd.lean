/- takeWindow. -/
import Derived.Test.YtkmclgbiedbfpaaDoorKc
namespace Go.Proofs.YtkmclgbiedbfpaaDoor
open Go.RowKit Go.Maps Go.Shelf

set_option maxRecDepth 100000 in
set_option maxHeartbeats 1000000 in
theorem tail_int (lead size : Nat) (w : World) (hl : lead ≤ 100) (hs : size ≤ 100) :
    Calls Tryd.prog 48 #[.agg #[.int .i64 lead, .int .i64 size]] w fun e w' => e = .returned (.int .i64 (64 - (lead : Int) - size)) ∧ Below w.heap.size w w' := by
  go_enter Tryd.func48, Tryd.ntmps48
  go_wp2
  go_ret
  exact ⟨rfl, (Below.refl _ _).alloc (Nat.le_refl _) _⟩
theorem Un.keep {w w' : World} {U : Nat} {v : Value} {p : Nat} {s : An} (h : Un w U v p s) (hb : Below w.heap.size w w') : Un w' U v p s := by
  unfold Un at h ⊢
  exact (hb.block U (Array.getElem?_eq_some_iff.1 h).1).trans h
theorem Rd.below {w w' : World} {U : Nat} {v : Value} {ys : List UInt8} {p : Nat} {s : An} (h : Rd w U v ys p s) (hb : Below w.heap.size w w') : Rd w' U v ys p s := ⟨h.un.keep hb, h.by_.below hb, h.le, h.len⟩
theorem keptB {w w' : World} {U : Nat} {a : World} (h : Kept (fun k => k = U) a w) (hb : Below w.heap.size w w') : Kept (fun k => k = U) a w' := h.below hb
theorem takeN_less {m n : Nat} {r : List Bool} (h : takeN m r = none) (hmn : m ≤ n) : takeN n r = none := by
  unfold takeN at h ⊢
  split at h
  · cases h
  · rw [if_neg (by omega)]

set_option maxRecDepth 100000 in
set_option maxHeartbeats 2000000 in
theorem takeWindow_any (w : World) (U : Nat) (v : Value) (ys : List UInt8) (p : Nat) (s : An) (h : Rd w U v ys p s) :
    Calls Tryd.prog 58 #[.pointer (some ⟨U, 0, none⟩)] w fun e w' => Says w U v ys (takeWin s ((ub ys).drop p)) e w' := by
  have HSET : Hid (∀ (W : World) (p' l z : Nat), Rd W U v ys p' s → Rd ((W.setCell ⟨U, 5, none⟩ (.int .i64 l)).setCell ⟨U, 6, none⟩ (.int .i64 ((z : Int) + 1))) U v ys p' { s with lead := l, size := z + 1 } ∧ Kept (fun k => k = U) W ((W.setCell ⟨U, 5, none⟩ (.int .i64 l)).setCell ⟨U, 6, none⟩ (.int .i64 ((z : Int) + 1)))) := fun W p' l z hr => by
    have hk : Kept (fun k => k = U) W ((W.setCell ⟨U, 5, none⟩ (.int .i64 l)).setCell ⟨U, 6, none⟩ (.int .i64 ((z : Int) + 1))) := ((Kept.refl (fun k => k = U) W).un 5 _).un 6 _
    exact ⟨hr.kept hk (Un.set (s := { s with lead := l }) (Un.set hr.un 5 _ p' { s with lead := l } rfl) 6 _ p' { s with lead := l, size := z + 1 } rfl) hr.le, hk⟩
  cases h5 : takeN 5 ((ub ys).drop p) with
  | none =>
    have ht := take_none (width := 5) h (by omega) h5
    have h6 := takeN_less h5 (show 5 ≤ 6 by omega)
    have HT2 : Hid (∀ W, Rd W U v ys p s → Calls Tryd.prog 53 #[.pointer (some ⟨U, 0, none⟩), .int .i64 6] W fun e w' => e = .returned (.tuple #[.int .u64 0, .bool false]) ∧ Rd w' U v ys p s ∧ Kept (fun k => k = U) W w') := fun W h1 => take_none (width := 6) h1 (by omega) h6
    have HN : Hid (takeWin s ((ub ys).drop p) = none) := by show _ = _; unfold takeWin; rw [h5]; rfl
    clear h h5 h6
    go_enter Tryd.func58, Tryd.ntmps58
    go_wp2_with (first
      | (go_at_call 53; refine ht.mono ?_; clear ht; rintro e w1 ⟨rfl, hr1, hk1⟩; have HR1 : Hid (Rd w1 U v ys p s) := hr1; have HK1 : Hid (Kept (fun k => k = U) w w1) := hk1; clear hr1 hk1)
      | (go_at_call 53; refine (HT2.out w1 HR1.out).mono ?_; clear HT2; rintro e w2 ⟨rfl, hr2, hk2⟩; obtain ⟨-, -, -, -, -, c5, c6, cf⟩ := hr2.un.cells; have f5 := cf 5; have f6 := cf 6; have HR2 : Hid (Rd w2 U v ys p s) := hr2; have HK2 : Hid (Kept (fun k => k = U) w w2) := keptU HK1.out hk2; clear hr2 hk2 cf))
    go_ret
    obtain ⟨hr9, hk9⟩ := HSET.out w2 p 0 0 HR2.out
    exact Says.no HN.out hr9 (keptU HK2.out hk9)
  | some lr =>
    obtain ⟨l, r1⟩ := lr
    have ht := take_some (width := 5) h (by omega) h5
    clear h
    cases h6 : takeN 6 r1 with
    | none =>
      have HT2 : Hid (∀ W, Rd W U v ys (p + 5) s → (ub ys).drop (p + 5) = r1 → Calls Tryd.prog 53 #[.pointer (some ⟨U, 0, none⟩), .int .i64 6] W fun e w' => e = .returned (.tuple #[.int .u64 0, .bool false]) ∧ Rd w' U v ys (p + 5) s ∧ Kept (fun k => k = U) W w') := fun W h1 h2 => take_none (width := 6) h1 (by omega) (by rw [h2]; exact h6)
      have HN : Hid (takeWin s ((ub ys).drop p) = none) := by show _ = _; unfold takeWin; rw [h5, Option.bind_some, h6]; rfl
      clear h5 h6
      go_enter Tryd.func58, Tryd.ntmps58
      go_wp2_with (first
        | (go_at_call 53; refine ht.mono ?_; clear ht; rintro e w1 ⟨rfl, hr1, hk1, hd1, hx1⟩; have HR1 : Hid (Rd w1 U v ys (p + 5) s) := hr1; have HK1 : Hid (Kept (fun k => k = U) w w1) := hk1; have HD1 : Hid ((ub ys).drop (p + 5) = r1) := hd1; have hl1 : l < 32 := hx1; have hli : IntKind.i64.wrap (l : Int) = (l : Int) := wrapI (by omega) (by omega); clear hr1 hk1 hd1 hx1)
        | (go_at_call 53; refine (HT2.out w1 HR1.out HD1.out).mono ?_; clear HT2; rintro e w2 ⟨rfl, hr2, hk2⟩; obtain ⟨-, -, -, -, -, c5, c6, cf⟩ := hr2.un.cells; have f5 := cf 5; have f6 := cf 6; have HR2 : Hid (Rd w2 U v ys (p + 5) s) := hr2; have HK2 : Hid (Kept (fun k => k = U) w w2) := keptU HK1.out hk2; clear hr2 hk2 cf))
      go_ret
      obtain ⟨hr9, hk9⟩ := HSET.out w2 (p + 5) l 0 HR2.out
      exact Says.no HN.out hr9 (keptU HK2.out hk9)
    | some zr =>
      obtain ⟨z, r2⟩ := zr
      have HT2 : Hid (∀ W, Rd W U v ys (p + 5) s → (ub ys).drop (p + 5) = r1 → Calls Tryd.prog 53 #[.pointer (some ⟨U, 0, none⟩), .int .i64 6] W fun e w' => e = .returned (.tuple #[.int .u64 z, .bool true]) ∧ Rd w' U v ys (p + 5 + 6) s ∧ Kept (fun k => k = U) W w' ∧ (ub ys).drop (p + 5 + 6) = r2 ∧ z < 2 ^ 6) := fun W h1 h2 => take_some (width := 6) h1 (by omega) (by rw [h2]; exact h6)
      have HN : Hid (takeWin s ((ub ys).drop p) = if l + (z + 1) ≤ 64 then some ({ s with lead := l, size := z + 1 }, r2) else none) := by show _ = _; unfold takeWin; rw [h5, Option.bind_some, h6]; rfl
      have HTL : Hid (∀ W, l < 32 → z < 64 → Calls Tryd.prog 48 #[.agg #[.int .i64 l, .int .i64 ((z : Int) + 1)]] W fun e w' => e = .returned (.int .i64 (64 - (l : Int) - (z + 1))) ∧ Below W.heap.size W w') := fun W h1 h2 => tail_int l (z + 1) W (by omega) (by omega)
      clear h5 h6
      go_enter Tryd.func58, Tryd.ntmps58
      go_wp2_with (first
        | (go_at_call 53; refine ht.mono ?_; clear ht; rintro e w1 ⟨rfl, hr1, hk1, hd1, hx1⟩; have HR1 : Hid (Rd w1 U v ys (p + 5) s) := hr1; have HK1 : Hid (Kept (fun k => k = U) w w1) := hk1; have HD1 : Hid ((ub ys).drop (p + 5) = r1) := hd1; have hl1 : l < 32 := hx1; have hli : IntKind.i64.wrap (l : Int) = (l : Int) := wrapI (by omega) (by omega); clear hr1 hk1 hd1 hx1)
        | (go_at_call 53; refine (HT2.out w1 HR1.out HD1.out).mono ?_; clear HT2; rintro e w2 ⟨rfl, hr2, hk2, hd2, hx2⟩; obtain ⟨-, -, -, -, -, c5, c6, cf⟩ := hr2.un.cells; have f5 := cf 5; have f6 := cf 6; have HR2 : Hid (Rd w2 U v ys (p + 5 + 6) s) := hr2; have HK2 : Hid (Kept (fun k => k = U) w w2) := keptU HK1.out hk2; have HD2 : Hid ((ub ys).drop (p + 5 + 6) = r2) := hd2; have hz1 : z < 64 := hx2; have hzi : IntKind.i64.wrap (z : Int) = (z : Int) := wrapI (by omega) (by omega); clear hr2 hk2 cf hd2 hx2)
        | (go_at_call 48; refine (HTL.out _ hl1 hz1).mono ?_; clear HTL; rintro e w3 ⟨rfl, hb3⟩))
      go_ret
      obtain ⟨hr9, hk9⟩ := HSET.out w2 (p + 5 + 6) l z HR2.out
      by_cases hle : l + (z + 1) ≤ 64
      · have hN := HN.out
        rw [if_pos hle] at hN
        have e1 : decide ((z : Int) + 1 ≤ 64 - (l : Int)) = true := by simp; omega
        have := Says.yes (w := w) hN (hr9.below hb3) (keptB (keptU HK2.out hk9) hb3) HD2.out
        rw [← e1] at this
        exact this
      · have hN := HN.out
        rw [if_neg hle] at hN
        have e1 : decide ((z : Int) + 1 ≤ 64 - (l : Int)) = false := by simp; omega
        have := Says.no (w := w) hN (hr9.below hb3) (keptB (keptU HK2.out hk9) hb3)
        rw [← e1] at this
        exact this

end Go.Proofs.YtkmclgbiedbfpaaDoor
