/- The document's line under way: refusals, one byte eaten. -/
import Derived.Test.YtfckdleahljdeaaGreatDoorMEx4
import Derived.Test.YtfckdleahljdeaaGreatDoorMEx8
import Derived.BigQuiet
namespace Go.Proofs.YtfckdleahljdeaaGreatDoor
open Go.RowKit Go.Maps

/-- A line under way. -/
def LnAt (W : World) (X : Nat) (s : ByteArray) (p : Nat) (b : Bool) (q : Nat) (e : Int) (nm vl : Value) : Prop := W.heap[X]? = some (.cells #[.string s, .int .i64 p, .bool b, .int .i64 q, .int .i64 e, nm, vl] 59)
/-- Its cells. -/
structure LnX (W : World) (X : Nat) (s : ByteArray) (p : Nat) (b : Bool) (q : Nat) (e : Int) (nm vl : Value) : Prop where
  c0 : W.cell? ⟨X, 0, none⟩ = some (.string s)
  c1 : W.cell? ⟨X, 1, none⟩ = some (.int .i64 p)
  c2 : W.cell? ⟨X, 2, none⟩ = some (.bool b)
  c3 : W.cell? ⟨X, 3, none⟩ = some (.int .i64 q)
  c4 : W.cell? ⟨X, 4, none⟩ = some (.int .i64 e)
  c5 : W.cell? ⟨X, 5, none⟩ = some nm
  c6 : W.cell? ⟨X, 6, none⟩ = some vl
  f1 : W.frozen? ⟨X, 1, none⟩ = false
  f2 : W.frozen? ⟨X, 2, none⟩ = false
  f3 : W.frozen? ⟨X, 3, none⟩ = false
  f4 : W.frozen? ⟨X, 4, none⟩ = false
  f5 : W.frozen? ⟨X, 5, none⟩ = false
  f6 : W.frozen? ⟨X, 6, none⟩ = false
theorem LnAt.x {W : World} {X : Nat} {s : ByteArray} {p : Nat} {b : Bool} {q : Nat} {e : Int} {nm vl : Value} (h : LnAt W X s p b q e nm vl) : LnX W X s p b q e nm vl :=
  ⟨by rw [cellOf h]; rfl, by rw [cellOf h]; rfl, by rw [cellOf h]; rfl, by rw [cellOf h]; rfl, by rw [cellOf h]; rfl, by rw [cellOf h]; rfl, by rw [cellOf h]; rfl, frozenOf h, frozenOf h, frozenOf h, frozenOf h, frozenOf h, frozenOf h⟩
theorem LnAt.lt {W : World} {X : Nat} {s : ByteArray} {p : Nat} {b : Bool} {q : Nat} {e : Int} {nm vl : Value} (h : LnAt W X s p b q e nm vl) : X < W.heap.size := (Array.getElem?_eq_some_iff.1 h).1
theorem LnAt.drewN {W : World} {X : Nat} {s : ByteArray} {p : Nat} {b : Bool} {q : Nat} {e : Int} {nm vl : Value} (h : LnAt W X s p b q e nm vl) (n : Nat) : LnAt (W.drewN n) X s p b q e nm vl := h
theorem LnAt.below {W W' : World} {X B : Nat} {s : ByteArray} {p : Nat} {b : Bool} {q : Nat} {e : Int} {nm vl : Value} (h : LnAt W X s p b q e nm vl) (hb : Below B W W') (hX : X < B) : LnAt W' X s p b q e nm vl := (hb.block _ hX).trans h
theorem LnAt.set1 {W : World} {X : Nat} {s : ByteArray} {p : Nat} {b : Bool} {q : Nat} {e : Int} {nm vl : Value} (h : LnAt W X s p b q e nm vl) (p' : Nat) {v : Value} (hv : v = .int .i64 p') : LnAt (W.setCell ⟨X, 1, none⟩ v) X s p' b q e nm vl := by subst hv; exact setOf h _
theorem LnAt.set2 {W : World} {X : Nat} {s : ByteArray} {p : Nat} {b : Bool} {q : Nat} {e : Int} {nm vl : Value} (h : LnAt W X s p b q e nm vl) (b' : Bool) : LnAt (W.setCell ⟨X, 2, none⟩ (.bool b')) X s p b' q e nm vl := setOf h _
theorem LnAt.set3 {W : World} {X : Nat} {s : ByteArray} {p : Nat} {b : Bool} {q : Nat} {e : Int} {nm vl : Value} (h : LnAt W X s p b q e nm vl) (q' : Nat) : LnAt (W.setCell ⟨X, 3, none⟩ (.int .i64 q')) X s p b q' e nm vl := setOf h _
theorem LnAt.set4 {W : World} {X : Nat} {s : ByteArray} {p : Nat} {b : Bool} {q : Nat} {e : Int} {nm vl : Value} (h : LnAt W X s p b q e nm vl) (e' : Int) : LnAt (W.setCell ⟨X, 4, none⟩ (.int .i64 e')) X s p b q e' nm vl := setOf h _
theorem LnAt.set5 {W : World} {X : Nat} {s : ByteArray} {p : Nat} {b : Bool} {q : Nat} {e : Int} {nm vl : Value} (h : LnAt W X s p b q e nm vl) (v : Value) : LnAt (W.setCell ⟨X, 5, none⟩ v) X s p b q e v vl := setOf h _
theorem LnAt.set6 {W : World} {X : Nat} {s : ByteArray} {p : Nat} {b : Bool} {q : Nat} {e : Int} {nm vl : Value} (h : LnAt W X s p b q e nm vl) (v : Value) : LnAt (W.setCell ⟨X, 6, none⟩ v) X s p b q e nm v := setOf h _
theorem keptX (W : World) (X i : Nat) (v : Value) : Kept (fun k => k = X) W (W.setCell ⟨X, i, none⟩ v) := (Kept.refl (fun k => k = X) W).setCell (p := ⟨X, i, none⟩) (fun _ => rfl) v
theorem Kept.two {X : Nat} {a b c : World} (h : Kept (fun k => k = X) a b) (k : Kept (fun k => k = X) b c) : Kept (fun k => k = X) a c := h.trans k (fun _ _ h => h)

set_option maxRecDepth 100000 in
set_option maxHeartbeats 1000000 in
theorem refNo_any (X : Nat) (s : ByteArray) (p q : Nat) (e r : Int) (nm vl : Value) (z : Nat) (w : World) (h : LnAt w X s p false q e nm vl) : Calls Tryz.prog 43 #[.pointer (some ⟨X, 0, none⟩), .int .i64 z, .int .i64 r] w fun en w' => (∃ v, en = .returned v) ∧ LnAt w' X s p true z r nm vl ∧ Kept (fun k => k = X) w w' := by
  obtain ⟨c0, c1, c2, c3, c4, c5, c6, f1, f2, f3, f4, f5, f6⟩ := h.x
  have HL : Hid (LnAt w X s p false q e nm vl) := h
  clear h
  go_enter Tryz.func43, Tryz.ntmps43
  go_wp2
  go_end0
  exact ⟨⟨_, rfl⟩, ((HL.out.set2 true).set3 z).set4 r, ((keptX w X 2 _).two (keptX _ X 3 _)).two (keptX _ X 4 _)⟩

set_option maxRecDepth 100000 in
set_option maxHeartbeats 1000000 in
theorem refNo_bad (X : Nat) (s : ByteArray) (p q : Nat) (e r : Int) (nm vl : Value) (z : Nat) (w : World) (h : LnAt w X s p true q e nm vl) : Calls Tryz.prog 43 #[.pointer (some ⟨X, 0, none⟩), .int .i64 z, .int .i64 r] w fun en w' => (∃ v, en = .returned v) ∧ w' = w := by
  obtain ⟨c0, c1, c2, c3, c4, c5, c6, f1, f2, f3, f4, f5, f6⟩ := h.x
  clear h
  go_enter Tryz.func43, Tryz.ntmps43
  go_wp2
  go_end0
  exact ⟨⟨_, rfl⟩, rfl⟩

set_option maxRecDepth 100000 in
set_option maxHeartbeats 1000000 in
theorem refEat_bad (X : Nat) (s : ByteArray) (p q : Nat) (e : Int) (nm vl : Value) (c : UInt8) (w : World) (h : LnAt w X s p true q e nm vl) : Calls Tryz.prog 44 #[.pointer (some ⟨X, 0, none⟩), .int .u8 c.toNat] w fun en w' => (∃ v, en = .returned v) ∧ w' = w := by
  obtain ⟨c0, c1, c2, c3, c4, c5, c6, f1, f2, f3, f4, f5, f6⟩ := h.x
  have hbl : c.toNat < 256 := c.toNat_lt
  clear h
  generalize c.toNat = cN at *
  go_enter Tryz.func44, Tryz.ntmps44
  go_wp2
  refine bodyPost_ret (results_none rfl _ _ _) rfl ?_
  exact ⟨⟨_, rfl⟩, rfl⟩

set_option maxRecDepth 100000 in
set_option maxHeartbeats 1000000 in
theorem refEat_any (X : Nat) (s : ByteArray) (p q : Nat) (e : Int) (nm vl : Value) (c : UInt8) (w : World) (h : LnAt w X s p false q e nm vl) (hp : p ≤ s.size) (hs : s.size ≤ 1000000000) : Calls Tryz.prog 44 #[.pointer (some ⟨X, 0, none⟩), .int .u8 c.toNat] w fun en w' => (∃ v, en = .returned v) ∧ ((s.data.toList[p]? = some c ∧ LnAt w' X s (p + 1) false q e nm vl) ∨ (¬ s.data.toList[p]? = some c ∧ LnAt w' X s p true p 8 nm vl)) ∧ Kept (fun k => k = X) w w' := by
  obtain ⟨c0, c1, c2, c3, c4, c5, c6, f1, f2, f3, f4, f5, f6⟩ := h.x
  have HL : Hid (LnAt w X s p false q e nm vl) := h
  have HN : Hid (∀ n, Calls Tryz.prog 43 #[.pointer (some ⟨X, 0, none⟩), .int .i64 p, .int .i64 8] (w.drewN n) fun en w' => (∃ v, en = .returned v) ∧ LnAt w' X s p true p 8 nm vl ∧ Kept (fun k => k = X) (w.drewN n) w') := fun n => refNo_any X s p q e 8 nm vl p _ (h.drewN n)
  have hbl : c.toNat < 256 := c.toNat_lt
  clear h
  by_cases hlt : p < s.size
  · have hby := byteAt s p hlt
    have hbs : s[p].toNat < 256 := s[p].toNat_lt
    have hat : s.data.toList[p]? = some s[p] := by rw [List.getElem?_eq_getElem (by simpa using hlt), hby]
    by_cases hc : s[p] = c
    · have hif : s.data.toList[p]? = some c := by rw [hat, hc]
      have hcN : (s[p].toNat : Int) = c.toNat := by rw [hc]
      have HIF : Hid (s.data.toList[p]? = some c) := hif
      clear hif hc hat hby HN
      obtain ⟨cN, hcN2⟩ : ∃ cN, cN = c.toNat := ⟨_, rfl⟩
      rw [← hcN2] at hcN hbl ⊢
      clear hcN2
      go_enter Tryz.func44, Tryz.ntmps44
      go_wp2
      go_quiet (fail)
      go_wp2
      go_end0
      exact ⟨⟨_, rfl⟩, .inl ⟨HIF.out, (HL.out.drewN _).set1 (p + 1) (by go_num)⟩, ((Kept.refl _ w).drewN _).two (keptX _ X 1 _)⟩
    · have hif : ¬ s.data.toList[p]? = some c := by rw [hat]; intro e; exact hc (Option.some.inj e)
      have hcN : ((s[p].toNat : Int) == c.toNat) = false := by
        rw [u8_eq]
        simpa using hc
      have HIF : Hid (¬ s.data.toList[p]? = some c) := hif
      clear hif hc hat hby
      obtain ⟨cN, hcN2⟩ : ∃ cN, cN = c.toNat := ⟨_, rfl⟩
      rw [← hcN2] at hcN hbl ⊢
      have hcM : ((s[p].toNat : Int) != cN) = true := by simpa using hcN
      clear hcN2
      go_enter Tryz.func44, Tryz.ntmps44
      go_wp2
      go_quiet (fail)
      go_wp2_with (go_at_call 43; refine (HN.out _).mono ?_; clear HN; rintro e w1 ⟨⟨v, rfl⟩, hl, hk⟩)
      refine bodyPost_ret (results_none rfl _ _ _) rfl ?_
      exact ⟨⟨_, rfl⟩, .inr ⟨HIF.out, hl⟩, ((Kept.refl _ w).drewN _).two hk⟩
  · have hif : ¬ s.data.toList[p]? = some c := by
      intro e
      exact hlt (some_lt e)
    have HIF : Hid (¬ s.data.toList[p]? = some c) := hif
    clear hif
    obtain ⟨cN, hcN2⟩ : ∃ cN, cN = c.toNat := ⟨_, rfl⟩
    rw [← hcN2] at hbl ⊢
    clear hcN2
    go_enter Tryz.func44, Tryz.ntmps44
    go_wp2
    go_quiet (fail)
    go_wp2_with (go_at_call 43; refine (HN.out _).mono ?_; clear HN; rintro e w1 ⟨⟨v, rfl⟩, hl, hk⟩)
    refine bodyPost_ret (results_none rfl _ _ _) rfl ?_
    exact ⟨⟨_, rfl⟩, .inr ⟨HIF.out, hl⟩, ((Kept.refl _ w).drewN _).two hk⟩
end Go.Proofs.YtfckdleahljdeaaGreatDoor
