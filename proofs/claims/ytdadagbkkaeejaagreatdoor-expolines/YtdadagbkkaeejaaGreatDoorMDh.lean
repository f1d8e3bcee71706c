/- Texts that belong together. -/
import Derived.Test.YtdadagbkkaeejaaGreatDoorMDe
/- A number without its sign. -/
namespace Go.Proofs.YtdadagbkkaeejaaGreatDoor.Nu
open Go.RowKit Go.Maps

theorem ret_ui {a b c d : Int} (h1 : a = b) (h2 : c = d) : Ending.returned (.tuple #[.int .u64 a, .int .i64 c]) = .returned (.tuple #[.int .u64 b, .int .i64 d]) := by rw [h1, h2]
/-- The count and the power of two of a float's bits, which have no sign. -/
def apartN (raw : Nat) : Nat × Int := if raw / 4503599627370496 = 0 then (raw % 4503599627370496, -1074) else (raw % 4503599627370496 + 4503599627370496, ((raw / 4503599627370496 : Nat) : Int) - 1 + -1074)

end Go.Proofs.YtdadagbkkaeejaaGreatDoor.Nu

/- The shortest digits, as numbers. -/
namespace Go.Proofs.YtdadagbkkaeejaaGreatDoor.Nu

def downB (r b : Nat) (cl : Bool) : Bool := decide (r < b) || (decide (r = b) && cl)
def upB (r a w : Nat) (cl : Bool) : Bool := decide (w < r + a) || (decide (w = r + a) && cl)
def nearB (r w d : Nat) : Bool := decide (2 * r < w) || (decide (2 * r = w) && decide (d % 2 = 0))
/-- The digits of v / w behind the point, until they, or those one greater, are within b below and a above. -/
def shortF : Nat → Nat → Nat → Nat → Nat → Bool → Option (List UInt8)
  | 0, _, _, _, _, _ => none
  | n + 1, v, b, a, w, cl =>
    if upB (v * 10 % w) (a * 10) w cl && !(downB (v * 10 % w) (b * 10) cl && nearB (v * 10 % w) w (v * 10 / w)) then some [UInt8.ofNat (49 + v * 10 / w)]
    else if downB (v * 10 % w) (b * 10) cl then some [UInt8.ofNat (48 + v * 10 / w)]
    else (shortF n (v * 10 % w) (b * 10) (a * 10) w cl).map (fun l => UInt8.ofNat (48 + v * 10 / w) :: l)
theorem shortF_mono : ∀ (n k v b a w : Nat) (cl : Bool) (l : List UInt8), shortF n v b a w cl = some l → shortF (n + k) v b a w cl = some l
  | 0, _, _, _, _, _, _, _, h => by cases h
  | n + 1, k, v, b, a, w, cl, l, h => by
    rw [Nat.add_right_comm]
    unfold shortF at h ⊢
    split
    · rename_i h1; rw [if_pos h1] at h; exact h
    · rename_i h1
      rw [if_neg h1] at h
      split
      · rename_i h2; rw [if_pos h2] at h; exact h
      · rename_i h2
        rw [if_neg h2] at h
        obtain ⟨t, ht, rfl⟩ := Option.map_eq_some_iff.1 h
        rw [shortF_mono n k _ _ _ _ _ t ht]
        rfl
theorem shortF_one {n m v b a w : Nat} {cl : Bool} {l l' : List UInt8} (h : shortF n v b a w cl = some l) (h' : shortF m v b a w cl = some l') : l = l' := by
  have h1 := shortF_mono n m v b a w cl l h
  have h2 := shortF_mono m n v b a w cl l' h'
  rw [Nat.add_comm m n, h1] at h2
  injection h2
theorem shortF_ends : ∀ (n v b a w : Nat) (cl : Bool), 0 < w → w < b * 10 ^ (n + 1) → ∃ l, shortF (n + 1) v b a w cl = some l
  | n, v, b, a, w, cl, hw, h => by
    unfold shortF
    split
    · exact ⟨_, rfl⟩
    · split
      · exact ⟨_, rfl⟩
      · rename_i h2
        have hr : v * 10 % w < w := Nat.mod_lt _ hw
        cases n with
        | zero =>
          exfalso
          apply h2
          unfold downB
          have : v * 10 % w < b * 10 := by omega
          simp [this]
        | succ n =>
          have h3 : w < (b * 10) * 10 ^ (n + 1) := by
            rw [Nat.mul_assoc, Nat.mul_comm 10, ← Nat.pow_succ]
            exact h
          obtain ⟨l, hl⟩ := shortF_ends n (v * 10 % w) (b * 10) (a * 10) w cl hw h3
          exact ⟨_, by rw [hl]; rfl⟩
/-- All digits but the last are at most 9, the last is at most ten, if the number is below 1. -/
theorem shortF_good : ∀ (n v b a w : Nat) (cl : Bool) (l : List UInt8), v < w → shortF n v b a w cl = some l → l ≠ [] ∧ ∀ d ∈ l, 48 ≤ d.toNat ∧ d.toNat ≤ 58
  | 0, _, _, _, _, _, _, _, h => by cases h
  | n + 1, v, b, a, w, cl, l, hv, h => by
    have hq : v * 10 / w ≤ 9 := by
      have : v * 10 / w < 10 := Nat.div_lt_of_lt_mul (by omega)
      omega
    have e48 : 48 ≤ (UInt8.ofNat (48 + v * 10 / w)).toNat ∧ (UInt8.ofNat (48 + v * 10 / w)).toNat ≤ 58 := by
      generalize v * 10 / w = q at *
      rw [UInt8.toNat_ofNat']; omega
    have e49 : 48 ≤ (UInt8.ofNat (49 + v * 10 / w)).toNat ∧ (UInt8.ofNat (49 + v * 10 / w)).toNat ≤ 58 := by
      generalize v * 10 / w = q at *
      rw [UInt8.toNat_ofNat']; omega
    unfold shortF at h
    split at h
    · injection h with h; subst h
      refine ⟨by simp, fun d hd => ?_⟩
      rw [List.mem_singleton.1 hd]; exact e49
    · split at h
      · injection h with h; subst h
        refine ⟨by simp, fun d hd => ?_⟩
        rw [List.mem_singleton.1 hd]; exact e48
      · obtain ⟨t, ht, rfl⟩ := Option.map_eq_some_iff.1 h
        have h9 := shortF_good n _ _ _ _ _ t (Nat.mod_lt _ (by omega)) ht
        refine ⟨by simp, fun d hd => ?_⟩
        rcases List.mem_cons.1 hd with rfl | h1
        · exact e48
        · exact h9.2 d h1
theorem shortF_len : ∀ (n v b a w : Nat) (cl : Bool) (l : List UInt8), shortF n v b a w cl = some l → l.length ≤ n
  | 0, _, _, _, _, _, _, h => by cases h
  | n + 1, v, b, a, w, cl, l, h => by
    unfold shortF at h
    split at h
    · injection h with h; subst h; simp
    · split at h
      · injection h with h; subst h; simp
      · obtain ⟨t, ht, rfl⟩ := Option.map_eq_some_iff.1 h
        have h9 := shortF_len n _ _ _ _ _ t ht
        simp; omega

/-- The power of ten that is looked at first, by the power of two. -/
def expE (top : Int) : Int := top * 1292913986 / 4294967296 + 1
def okE (k : Nat) (p : Int) : Bool :=
  decide (2 ^ (k + 1 + p.toNat) * 10 ^ (-expE (k + p)).toNat ≤ 10 * (2 ^ (-p).toNat * 10 ^ (expE (k + p)).toNat))
  && decide (2 ^ (-p).toNat * 10 ^ (expE (k + p)).toNat ≤ 10 * (2 ^ (k + p.toNat) * 10 ^ (-expE (k + p)).toNat))
theorem okE_low : (List.range 53).all (fun k => okE k (-1074)) = true := by kernel_rfl
theorem okE_high : (List.range 2046).all (fun i => okE 52 ((i : Int) - 1074)) = true := by kernel_rfl
theorem okE_at {k : Nat} {p : Int} (h : (k ≤ 52 ∧ p = -1074) ∨ (k = 52 ∧ -1074 ≤ p ∧ p ≤ 971)) : okE k p = true := by
  rcases h with ⟨h1, rfl⟩ | ⟨rfl, h1, h2⟩
  · exact List.all_eq_true.1 okE_low k (List.mem_range.2 (by omega))
  · have h3 := List.all_eq_true.1 okE_high (p + 1074).toNat (List.mem_range.2 (by omega))
    have e : (((p + 1074).toNat : Nat) : Int) - 1074 = p := by omega
    rw [e] at h3
    exact h3
end Go.Proofs.YtdadagbkkaeejaaGreatDoor.Nu

/- A span of naturals in memory. -/
namespace Go.Proofs.YtdadagbkkaeejaaGreatDoor.Nu
open Go.RowKit Go.Maps

def Apart (u v : Value) : Prop := ∀ k, u.ownBlock = some k → ¬ v.ownBlock = some k
theorem Apart.symm {u v : Value} (h : Apart u v) : Apart v u := fun k h1 h2 => h k h2 h1
/-- Four naturals in memory of one's own, none in another's. -/
structure Nats (w : World) (base : Nat) (v1 v2 v3 v4 : Value) (V Bl A W : Nat) : Prop where
  b1 : Big w base v1 V
  b2 : Big w base v2 Bl
  b3 : Big w base v3 A
  b4 : Big w base v4 W
  a12 : Apart v1 v2
  a13 : Apart v1 v3
  a14 : Apart v1 v4
  a23 : Apart v2 v3
  a24 : Apart v2 v4
  a34 : Apart v3 v4
theorem Big.moved {w w' : World} {base N : Nat} {u v v' : Value} (h : Big w base u N) (hs : Step w w' v v') (ha : Apart u v) : Big w' base u N ∧ Apart u v' := Big.step h hs ha
section
variable {w w' : World} {base : Nat} {v1 v2 v3 v4 u : Value} {V Bl A W N : Nat}
theorem Nats.s1 (h : Nats w base v1 v2 v3 v4 V Bl A W) (hb : Big w' base u N) (hs : Step w w' v1 u) : Nats w' base u v2 v3 v4 N Bl A W := by
  obtain ⟨c2, d2⟩ := h.b2.moved hs h.a12.symm
  obtain ⟨c3, d3⟩ := h.b3.moved hs h.a13.symm
  obtain ⟨c4, d4⟩ := h.b4.moved hs h.a14.symm
  exact ⟨hb, c2, c3, c4, d2.symm, d3.symm, d4.symm, h.a23, h.a24, h.a34⟩
theorem Nats.s2 (h : Nats w base v1 v2 v3 v4 V Bl A W) (hb : Big w' base u N) (hs : Step w w' v2 u) : Nats w' base v1 u v3 v4 V N A W := by
  obtain ⟨c1, d1⟩ := h.b1.moved hs h.a12
  obtain ⟨c3, d3⟩ := h.b3.moved hs h.a23.symm
  obtain ⟨c4, d4⟩ := h.b4.moved hs h.a24.symm
  exact ⟨c1, hb, c3, c4, d1, h.a13, h.a14, d3.symm, d4.symm, h.a34⟩
theorem Nats.s3 (h : Nats w base v1 v2 v3 v4 V Bl A W) (hb : Big w' base u N) (hs : Step w w' v3 u) : Nats w' base v1 v2 u v4 V Bl N W := by
  obtain ⟨c1, d1⟩ := h.b1.moved hs h.a13
  obtain ⟨c2, d2⟩ := h.b2.moved hs h.a23
  obtain ⟨c4, d4⟩ := h.b4.moved hs h.a34.symm
  exact ⟨c1, c2, hb, c4, h.a12, d1, h.a14, d2, h.a24, d4.symm⟩
theorem Nats.s4 (h : Nats w base v1 v2 v3 v4 V Bl A W) (hb : Big w' base u N) (hs : Step w w' v4 u) : Nats w' base v1 v2 v3 u V Bl A N := by
  obtain ⟨c1, d1⟩ := h.b1.moved hs h.a14
  obtain ⟨c2, d2⟩ := h.b2.moved hs h.a24
  obtain ⟨c3, d3⟩ := h.b3.moved hs h.a34
  exact ⟨c1, c2, c3, hb, h.a12, h.a13, d1, h.a23, d2, d3⟩
theorem Nats.keep {O : Nat → Prop} (h : Nats w base v1 v2 v3 v4 V Bl A W) (hk : Kept O w w') (h1 : ∀ k, v1.ownBlock = some k → ¬ O k) (h2 : ∀ k, v2.ownBlock = some k → ¬ O k) (h3 : ∀ k, v3.ownBlock = some k → ¬ O k) (h4 : ∀ k, v4.ownBlock = some k → ¬ O k) : Nats w' base v1 v2 v3 v4 V Bl A W :=
  ⟨h.b1.kept hk h1, h.b2.kept hk h2, h.b3.kept hk h3, h.b4.kept hk h4, h.a12, h.a13, h.a14, h.a23, h.a24, h.a34⟩
theorem Nats.below (h : Nats w base v1 v2 v3 v4 V Bl A W) (hb : Below w.heap.size w w') : Nats w' base v1 v2 v3 v4 V Bl A W :=
  ⟨h.b1.below hb, h.b2.below hb, h.b3.below hb, h.b4.below hb, h.a12, h.a13, h.a14, h.a23, h.a24, h.a34⟩
end
theorem big_not_at {w : World} {b base N : Nat} {v : Value} {cs : Array Value} {t : TypeId} (ht : t ≠ 83) (h : w.heap[b]? = some (.cells cs t (0, 0))) (hv : Big w base v N) : ¬ v.ownBlock = some b := fun e => by
  obtain ⟨a, c, ds, rfl, hr, _⟩ := hv
  rcases hr.2 with ⟨e1, _⟩ | ⟨g, cap, cur, e1, _, hg, _⟩
  · rw [e1] at e; cases e
  · rw [e1] at e
    obtain rfl : g = b := by simpa [Value.ownBlock] using e
    rw [h] at hg
    injection hg with h9
    injection h9 with _ h8
    exact absurd h8 ht
/-- Blocks but that one, and but those of words, are as they were. -/
def KeepN (b : Nat) (w w' : World) : Prop := ∀ k cs t fr, k ≠ b → t ≠ 83 → w.heap[k]? = some (.cells cs t fr) → w'.heap[k]? = some (.cells cs t fr)
theorem KeepN.refl (b : Nat) (w : World) : KeepN b w w := fun _ _ _ _ _ _ h => h
theorem KeepN.trans {b : Nat} {w w1 w2 : World} (h : KeepN b w w1) (k : KeepN b w1 w2) : KeepN b w w2 := fun i cs t fr h1 h2 h3 => k i cs t fr h1 h2 (h i cs t fr h1 h2 h3)
theorem KeepN.drewN {b : Nat} {w w1 : World} (h : KeepN b w w1) (q : Nat) : KeepN b w (w1.drewN q) := h
theorem KeepN.below {b : Nat} {w w1 : World} (h : Below w.heap.size w w1) : KeepN b w w1 := fun i _cs _t _fr _ _ h3 => (h.block i (Array.getElem?_eq_some_iff.1 h3).1).trans h3
theorem KeepN.set {b : Nat} {w w1 : World} (h : Kept (fun k => k = b) w w1) : KeepN b w w1 := fun _i _cs _t _fr h1 _ h3 => h.heap h3 h1
theorem KeepN.step {b base N : Nat} {w w1 : World} {v u : Value} (hv : Big w base v N) (h : Step w w1 v u) : KeepN b w w1 := fun i cs t fr _ h2 h3 => h.1.heap h3 (fun e => by
  obtain ⟨a, c, ds, rfl, hr, _⟩ := hv
  rcases hr.2 with ⟨e1, _⟩ | ⟨g, cap, cur, e1, _, hg, _⟩
  · rw [e1] at e; cases e
  · rw [e1] at e
    obtain rfl : g = i := by simpa [Value.ownBlock] using e
    rw [h3] at hg
    injection hg with h9
    injection h9 with _ h8
    exact absurd h8 h2)
theorem span_cells {w : World} {b : Nat} {v1 v2 v3 v4 v5 : Value} {t : TypeId} (h : w.heap[b]? = some (.cells #[v1, v2, v3, v4, v5] t (0, 0))) :
    w.cell? ⟨b, 0, none⟩ = some v1 ∧ w.cell? ⟨b, 1, none⟩ = some v2 ∧ w.cell? ⟨b, 2, none⟩ = some v3 ∧ w.cell? ⟨b, 3, none⟩ = some v4 ∧ w.cell? ⟨b, 4, none⟩ = some v5
    ∧ w.frozen? ⟨b, 0, none⟩ = false ∧ w.frozen? ⟨b, 1, none⟩ = false ∧ w.frozen? ⟨b, 2, none⟩ = false ∧ w.frozen? ⟨b, 3, none⟩ = false := by
  simp [World.cell?, World.frozen?, h]
end Go.Proofs.YtdadagbkkaeejaaGreatDoor.Nu
