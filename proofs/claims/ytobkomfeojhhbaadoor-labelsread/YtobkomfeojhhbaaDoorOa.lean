/- cutText: a text behind its length. -/
import Derived.Test.YtobkomfeojhhbaaDoorBt
import Derived.Test.YtobkomfeojhhbaaDoorNa
import Derived.BigQuiet
import Derived.OwnWalk
namespace Go.Proofs.YtobkomfeojhhbaaDoor
open Go.RowKit Go.Maps

theorem or_bytes (a b : UInt8) : bits BinOp.or IntKind.i64 ((a.toNat : Int) * 256) (b.toNat : Int) = ((a.toNat * 256 + b.toNat : Nat) : Int) := by
  have ha := a.toNat_lt
  have hb := b.toNat_lt
  have e : (a.toNat : Int) * 256 = ((a.toNat * 256 : Nat) : Int) := by omega
  rw [e]
  have h1 : (BitVec.ofInt 64 ((a.toNat * 256 : Nat) : Int)).toNat = a.toNat * 256 := by
    rw [BitVec.ofInt_natCast, BitVec.toNat_ofNat]; exact Nat.mod_eq_of_lt (by omega)
  have h2 : (BitVec.ofInt 64 (b.toNat : Int)).toNat = b.toNat := by
    rw [BitVec.ofInt_natCast, BitVec.toNat_ofNat]; exact Nat.mod_eq_of_lt (by omega)
  show IntKind.i64.wrap ((BitVec.ofInt 64 ((a.toNat * 256 : Nat) : Int) ||| BitVec.ofInt 64 (b.toNat : Int)).toNat : Int) = _
  have h3 : a.toNat * 256 ||| b.toNat = a.toNat * 256 + b.toNat := by
    have := Nat.shiftLeft_add_eq_or_of_lt (i := 8) hb a.toNat
    rw [Nat.shiftLeft_eq] at this
    exact this.symm
  rw [BitVec.toNat_or, h1, h2, h3]
  simp [IntKind.wrap, IntKind.bits, IntKind.signed]
  omega

set_option maxRecDepth 100000 in
set_option maxHeartbeats 2000000 in
theorem cutText_some (v : Value) (a b : UInt8) (r : List UInt8) (w : World) (h : BytesAt w v (a :: b :: r)) (N : Nat) (hN : N = a.toNat * 256 + b.toNat) (hn : N ≤ r.length) (hl : r.length ≤ 100000000) :
    Calls Tryd.prog 61 #[v] w fun e w' => ∃ a' c', e = .returned (.tuple #[.string ⟨(r.take N).toArray⟩, .slice a' (r.drop N).length c', .bool true]) ∧ (∀ w0, BytesAt w0 v (a :: b :: r) → BytesAt w0 (.slice a' (r.drop N).length c') (r.drop N)) ∧ ∃ q, w' = w.drewN q := by
  obtain ⟨ad, c, rfl, hlc, -⟩ := id h
  obtain ⟨bk, o, rfl, h0⟩ := h.one 0 (by simp)
  obtain ⟨bk', o', e, h1⟩ := h.one 1 (by simp)
  cases e
  have g0 := h0 w (Below.refl _ _)
  have g1 := h1 w (Below.refl _ _)
  simp only [List.getElem_cons_zero, List.getElem_cons_succ, Nat.add_zero] at g0 g1
  have ha := a.toNat_lt
  have hb := b.toNat_lt
  have hor := or_bytes a b
  rw [← hN] at hor
  have HN : Hid (N = a.toNat * 256 + b.toNat) := hN
  have hN64 : N < 65536 := by omega
  clear hN
  have hmx : c ≤ 9223372036854775807 := by have h1 := hlc; unfold maxLen at h1; omega
  have hA : ∀ w0, BytesAt w0 (.slice (some ⟨bk, o, none⟩) (a :: b :: r).length c) (a :: b :: r) → BytesAt w0 (.slice (if c = 2 then some ⟨bk, o, none⟩ else some ⟨bk, o + 2, none⟩) r.length (c - 2)) r := fun w0 h0 => by
    have h9 := h0.rest 2 (by simp)
    simp only [List.drop_succ_cons, List.drop_zero, List.length_cons] at h9
    exact h9
  have hR := hA w h
  have hdl : (r.drop N).length = r.length - N := by simp
  rw [hdl]
  have hX := (hR.take N hn).str
  have hX2 : ∀ q, (convert 38 9 (.slice (if c = 2 then some ⟨bk, o, none⟩ else some ⟨bk, o + 2, none⟩) N (c - 2))).run Tryd.prog (w.drewN q) = .ok (.string ⟨(r.take N).toArray⟩) (w.drewN q) := fun q => ((hR.take N hn).drewN q).str
  have hni : (N : Int) ≤ (r.length : Int) := by omega
  have hni2 : (N : Int) ≤ (c : Int) - 2 := by rw [List.length_cons, List.length_cons] at hlc; omega
  have hc2 : 2 ≤ c := by rw [List.length_cons, List.length_cons] at hlc; omega
  rw [List.length_cons, List.length_cons] at *
  clear h0 h1 hX h
  generalize (⟨(r.take N).toArray⟩ : ByteArray) = X at *
  by_cases hc : c = 2
  · simp only [if_pos hc] at hA hX2
    subst hc
    have hr0 : r = [] := List.eq_nil_of_length_eq_zero (by omega)
    subst hr0
    have hN0 : N = 0 := by simpa using hn
    subst hN0
    have HR : Hid (∀ w0, BytesAt w0 (.slice (some ⟨bk, o, none⟩) ([] : List UInt8).length.succ.succ 2) (a :: b :: []) → BytesAt w0 (.slice (some ⟨bk, o, none⟩) 0 0) []) := hA
    clear hR hA
    go_enter Tryd.func61, Tryd.ntmps61
    go_wp2
    go_quiet (fail)
    go_wp2
    go_quiet (fail)
    go_wp2
    go_ret3
    exact ⟨_, _, rfl, HR.out, _, drewN_drewN _ _ _⟩
  · simp only [if_neg hc] at hA hX2
    have HR : Hid (∀ w0, BytesAt w0 (.slice (some ⟨bk, o, none⟩) (r.length + 1 + 1) c) (a :: b :: r) → BytesAt w0 (.slice (if c - 2 = N then some ⟨bk, o + 2, none⟩ else some ⟨bk, o + 2 + N, none⟩) (r.length - N) (c - 2 - N)) (r.drop N)) := fun w0 h0 => (hA w0 h0).rest N hn
    clear hR hA
    by_cases hcN : c - 2 = N
    · have HR' : Hid (∀ w0, BytesAt w0 (.slice (some ⟨bk, o, none⟩) (r.length + 1 + 1) c) (a :: b :: r) → BytesAt w0 (.slice (some ⟨bk, o + 2, none⟩) (r.length - N) 0) (r.drop N)) := fun w0 h0 => by
        have h9 := HR.out w0 h0
        rw [if_pos hcN, hcN, Nat.sub_self] at h9
        exact h9
      clear HR
      rw [hcN] at hX2
      go_enter Tryd.func61, Tryd.ntmps61
      go_wp2
      go_quiet (fail)
      go_wp2
      go_quiet (fail)
      go_wp2
      go_ret3
      exact ⟨_, _, rfl, HR'.out, _, drewN_drewN _ _ _⟩
    · have HR' : Hid (∀ w0, BytesAt w0 (.slice (some ⟨bk, o, none⟩) (r.length + 1 + 1) c) (a :: b :: r) → BytesAt w0 (.slice (some ⟨bk, o + 2 + N, none⟩) (r.length - N) (c - 2 - N)) (r.drop N)) := fun w0 h0 => by
        have h9 := HR.out w0 h0
        rw [if_neg hcN] at h9
        exact h9
      clear HR
      go_enter Tryd.func61, Tryd.ntmps61
      go_wp2
      go_quiet (fail)
      go_wp2
      go_quiet (fail)
      go_wp2
      go_ret3
      exact ⟨_, _, rfl, HR'.out, _, drewN_drewN _ _ _⟩

set_option maxRecDepth 100000 in
set_option maxHeartbeats 2000000 in
theorem cutText_large (v : Value) (a b : UInt8) (r : List UInt8) (w : World) (h : BytesAt w v (a :: b :: r)) (N : Nat) (hN : N = a.toNat * 256 + b.toNat) (hn : ¬ N ≤ r.length) (hl : r.length ≤ 100000000) :
    Calls Tryd.prog 61 #[v] w fun e w' => e = .returned (.tuple #[.string ⟨#[]⟩, .slice none 0 0, .bool false]) ∧ ∃ q, w' = w.drewN q := by
  obtain ⟨ad, c, rfl, hlc, -⟩ := id h
  obtain ⟨bk, o, rfl, h0⟩ := h.one 0 (by simp)
  obtain ⟨bk', o', e, h1⟩ := h.one 1 (by simp)
  cases e
  have g0 := h0 w (Below.refl _ _)
  have g1 := h1 w (Below.refl _ _)
  simp only [List.getElem_cons_zero, List.getElem_cons_succ, Nat.add_zero] at g0 g1
  have ha := a.toNat_lt
  have hb := b.toNat_lt
  have hor := or_bytes a b
  rw [← hN] at hor
  have hN64 : N < 65536 := by omega
  clear hN
  have hmx : c ≤ 9223372036854775807 := by have h1 := hlc; unfold maxLen at h1; omega
  have hni : ¬ (N : Int) ≤ (r.length : Int) := by omega
  have hc2 : 2 ≤ c := by rw [List.length_cons, List.length_cons] at hlc; omega
  rw [List.length_cons, List.length_cons] at *
  clear h0 h1 h
  by_cases hc : c = 2
  all_goals
    go_enter Tryd.func61, Tryd.ntmps61
    go_wp2
    go_quiet (fail)
    go_wp2
    go_ret3
    exact ⟨rfl, _, rfl⟩

theorem cutText_short (v : Value) (bs : List UInt8) (w : World) (h : BytesAt w v bs) (hl : bs.length < 2) :
    Calls Tryd.prog 61 #[v] w fun e w' => e = .returned (.tuple #[.string ⟨#[]⟩, .slice none 0 0, .bool false]) ∧ ∃ q, w' = w.drewN q := by
  obtain ⟨ad, c, rfl, hlc, -⟩ := id h
  have hli : (bs.length : Int) < 2 := by omega
  clear h
  go_enter Tryd.func61, Tryd.ntmps61
  go_wp2
  go_ret3
  exact ⟨rfl, 0, rfl⟩

/-- What cutText answers. -/
def cutAns (v : Value) (bs : List UInt8) (e : Ending) : Prop := match cutT bs with
  | none => e = .returned (.tuple #[.string ⟨#[]⟩, .slice none 0 0, .bool false])
  | some (x, r) => ∃ a' c', e = .returned (.tuple #[.string x, .slice a' r.length c', .bool true]) ∧ ∀ w0, BytesAt w0 v bs → BytesAt w0 (.slice a' r.length c') r
theorem cutText_any (v : Value) (bs : List UInt8) (w : World) (h : BytesAt w v bs) (hl : bs.length ≤ 1000000) :
    Calls Tryd.prog 61 #[v] w fun e w' => cutAns v bs e ∧ ∃ q, w' = w.drewN q := by
  match bs, h, hl with
  | [], h, _ => exact cutText_short v [] w h (by simp)
  | [x], h, _ => exact cutText_short v [x] w h (by simp)
  | a :: b :: r, h, hl =>
    rw [List.length_cons, List.length_cons] at hl
    by_cases hn : a.toNat * 256 + b.toNat ≤ r.length
    · refine (cutText_some v a b r w h _ rfl hn (by omega)).mono ?_
      rintro e w' ⟨a', c', he, hB, hq⟩
      refine ⟨?_, hq⟩
      unfold cutAns cutT
      simp only [if_pos hn]
      exact ⟨a', c', he, hB⟩
    · refine (cutText_large v a b r w h _ rfl hn (by omega)).mono ?_
      rintro e w' ⟨he, hq⟩
      refine ⟨?_, hq⟩
      unfold cutAns cutT
      simp only [if_neg hn]
      exact he

end Go.Proofs.YtobkomfeojhhbaaDoor
