/- Texts that belong together. -/
import Derived.Test.YtfckdleahljdeaaGreatDoorMDd
import Derived.StillTail
import Derived.Deep.RegionHeld3
import Derived.WalkKit
import Derived.WalkMore
/- A number without its sign. -/
namespace Go.Proofs.YtfckdleahljdeaaGreatDoor.Nu
open Go.RowKit Go.Maps

theorem ret_ui {a b c d : Int} (h1 : a = b) (h2 : c = d) : Ending.returned (.tuple #[.int .u64 a, .int .i64 c]) = .returned (.tuple #[.int .u64 b, .int .i64 d]) := by rw [h1, h2]
/-- The count and the power of two of a float's bits, which have no sign. -/
def apartN (raw : Nat) : Nat × Int := if raw / 4503599627370496 = 0 then (raw % 4503599627370496, -1074) else (raw % 4503599627370496 + 4503599627370496, ((raw / 4503599627370496 : Nat) : Int) - 1 + -1074)

end Go.Proofs.YtfckdleahljdeaaGreatDoor.Nu

/- The shortest digits, as numbers. -/
namespace Go.Proofs.YtfckdleahljdeaaGreatDoor.Nu

def downB (r b : Nat) (cl : Bool) : Bool := decide (r < b) || (decide (r = b) && cl)
def upB (r a w : Nat) (cl : Bool) : Bool := decide (w < r + a) || (decide (w = r + a) && cl)
def nearB (r w d : Nat) : Bool := decide (2 * r < w) || (decide (2 * r = w) && decide (d % 2 = 0))
/-- The digits of v / w behind the point, until they, or those one greater, are within b below and a above. -/
def shortF : Nat → Nat → Nat → Nat → Nat → Bool → Option (List UInt8)
  | 0, _, _, _, _, _ => none
  | n + 1, v, b, a, w, cl =>
    if upB (v * 10 % w) (a * 10) w cl && !(downB (v * 10 % w) (b * 10) cl && nearB (v * 10 % w) w (v * 10 / w)) then some [UInt8.ofNat (49 + v * 10 / w)]
    else if downB (v * 10 % w) (b * 10) cl then some [UInt8.ofNat (48 + v * 10 / w)]
    else (shortF n (v * 10 % w) (b * 10) (a * 10) w cl).map (fun l => UInt8.ofNat (48 + v * 10 / w) :: l)
theorem shortF_mono : ∀ (n k v b a w : Nat) (cl : Bool) (l : List UInt8), shortF n v b a w cl = some l → shortF (n + k) v b a w cl = some l
  | 0, _, _, _, _, _, _, _, h => by cases h
  | n + 1, k, v, b, a, w, cl, l, h => by
    rw [Nat.add_right_comm]
    unfold shortF at h ⊢
    split
    · rename_i h1; rw [if_pos h1] at h; exact h
    · rename_i h1
      rw [if_neg h1] at h
      split
      · rename_i h2; rw [if_pos h2] at h; exact h
      · rename_i h2
        rw [if_neg h2] at h
        obtain ⟨t, ht, rfl⟩ := Option.map_eq_some_iff.1 h
        rw [shortF_mono n k _ _ _ _ _ t ht]
        rfl
theorem shortF_one {n m v b a w : Nat} {cl : Bool} {l l' : List UInt8} (h : shortF n v b a w cl = some l) (h' : shortF m v b a w cl = some l') : l = l' := by
  have h1 := shortF_mono n m v b a w cl l h
  have h2 := shortF_mono m n v b a w cl l' h'
  rw [Nat.add_comm m n, h1] at h2
  injection h2
theorem shortF_ends : ∀ (n v b a w : Nat) (cl : Bool), 0 < w → w < b * 10 ^ (n + 1) → ∃ l, shortF (n + 1) v b a w cl = some l
  | n, v, b, a, w, cl, hw, h => by
    unfold shortF
    split
    · exact ⟨_, rfl⟩
    · split
      · exact ⟨_, rfl⟩
      · rename_i h2
        have hr : v * 10 % w < w := Nat.mod_lt _ hw
        cases n with
        | zero =>
          exfalso
          apply h2
          unfold downB
          have : v * 10 % w < b * 10 := by omega
          simp [this]
        | succ n =>
          have h3 : w < (b * 10) * 10 ^ (n + 1) := by
            rw [Nat.mul_assoc, Nat.mul_comm 10, ← Nat.pow_succ]
            exact h
          obtain ⟨l, hl⟩ := shortF_ends n (v * 10 % w) (b * 10) (a * 10) w cl hw h3
          exact ⟨_, by rw [hl]; rfl⟩
/-- All digits but the last are at most 9, the last is at most ten, if the number is below 1. -/
theorem shortF_good : ∀ (n v b a w : Nat) (cl : Bool) (l : List UInt8), v < w → shortF n v b a w cl = some l → l ≠ [] ∧ ∀ d ∈ l, 48 ≤ d.toNat ∧ d.toNat ≤ 58
  | 0, _, _, _, _, _, _, _, h => by cases h
  | n + 1, v, b, a, w, cl, l, hv, h => by
    have hq : v * 10 / w ≤ 9 := by
      have : v * 10 / w < 10 := Nat.div_lt_of_lt_mul (by omega)
      omega
    have e48 : 48 ≤ (UInt8.ofNat (48 + v * 10 / w)).toNat ∧ (UInt8.ofNat (48 + v * 10 / w)).toNat ≤ 58 := by
      generalize v * 10 / w = q at *
      rw [UInt8.toNat_ofNat']; omega
    have e49 : 48 ≤ (UInt8.ofNat (49 + v * 10 / w)).toNat ∧ (UInt8.ofNat (49 + v * 10 / w)).toNat ≤ 58 := by
      generalize v * 10 / w = q at *
      rw [UInt8.toNat_ofNat']; omega
    unfold shortF at h
    split at h
    · injection h with h; subst h
      refine ⟨by simp, fun d hd => ?_⟩
      rw [List.mem_singleton.1 hd]; exact e49
    · split at h
      · injection h with h; subst h
        refine ⟨by simp, fun d hd => ?_⟩
        rw [List.mem_singleton.1 hd]; exact e48
      · obtain ⟨t, ht, rfl⟩ := Option.map_eq_some_iff.1 h
        have h9 := shortF_good n _ _ _ _ _ t (Nat.mod_lt _ (by omega)) ht
        refine ⟨by simp, fun d hd => ?_⟩
        rcases List.mem_cons.1 hd with rfl | h1
        · exact e48
        · exact h9.2 d h1
theorem shortF_len : ∀ (n v b a w : Nat) (cl : Bool) (l : List UInt8), shortF n v b a w cl = some l → l.length ≤ n
  | 0, _, _, _, _, _, _, h => by cases h
  | n + 1, v, b, a, w, cl, l, h => by
    unfold shortF at h
    split at h
    · injection h with h; subst h; simp
    · split at h
      · injection h with h; subst h; simp
      · obtain ⟨t, ht, rfl⟩ := Option.map_eq_some_iff.1 h
        have h9 := shortF_len n _ _ _ _ _ t ht
        simp; omega

/-- The power of ten that is looked at first, by the power of two. -/
def expE (top : Int) : Int := top * 1292913986 / 4294967296 + 1
def okE (k : Nat) (p : Int) : Bool :=
  decide (2 ^ (k + 1 + p.toNat) * 10 ^ (-expE (k + p)).toNat ≤ 10 * (2 ^ (-p).toNat * 10 ^ (expE (k + p)).toNat))
  && decide (2 ^ (-p).toNat * 10 ^ (expE (k + p)).toNat ≤ 10 * (2 ^ (k + p.toNat) * 10 ^ (-expE (k + p)).toNat))
theorem okE_low : (List.range 53).all (fun k => okE k (-1074)) = true := by kernel_rfl
theorem okE_high : (List.range 2046).all (fun i => okE 52 ((i : Int) - 1074)) = true := by kernel_rfl
theorem okE_at {k : Nat} {p : Int} (h : (k ≤ 52 ∧ p = -1074) ∨ (k = 52 ∧ -1074 ≤ p ∧ p ≤ 971)) : okE k p = true := by
  rcases h with ⟨h1, rfl⟩ | ⟨rfl, h1, h2⟩
  · exact List.all_eq_true.1 okE_low k (List.mem_range.2 (by omega))
  · have h3 := List.all_eq_true.1 okE_high (p + 1074).toNat (List.mem_range.2 (by omega))
    have e : (((p + 1074).toNat : Nat) : Int) - 1074 = p := by omega
    rw [e] at h3
    exact h3
end Go.Proofs.YtfckdleahljdeaaGreatDoor.Nu

/- A span of naturals in memory. -/
namespace Go.Proofs.YtfckdleahljdeaaGreatDoor.Nu
open Go.RowKit Go.Maps

def Apart (u v : Value) : Prop := ∀ k, u.ownBlock = some k → ¬ v.ownBlock = some k
theorem Apart.symm {u v : Value} (h : Apart u v) : Apart v u := fun k h1 h2 => h k h2 h1
/-- Four naturals in memory of one's own, none in another's. -/
structure Nats (w : World) (base : Nat) (v1 v2 v3 v4 : Value) (V Bl A W : Nat) : Prop where
  b1 : Big w base v1 V
  b2 : Big w base v2 Bl
  b3 : Big w base v3 A
  b4 : Big w base v4 W
  a12 : Apart v1 v2
  a13 : Apart v1 v3
  a14 : Apart v1 v4
  a23 : Apart v2 v3
  a24 : Apart v2 v4
  a34 : Apart v3 v4
theorem Big.moved {w w' : World} {base N : Nat} {u v v' : Value} (h : Big w base u N) (hs : Step w w' v v') (ha : Apart u v) : Big w' base u N ∧ Apart u v' := Big.step h hs ha
section
variable {w w' : World} {base : Nat} {v1 v2 v3 v4 u : Value} {V Bl A W N : Nat}
theorem Nats.s1 (h : Nats w base v1 v2 v3 v4 V Bl A W) (hb : Big w' base u N) (hs : Step w w' v1 u) : Nats w' base u v2 v3 v4 N Bl A W := by
  obtain ⟨c2, d2⟩ := h.b2.moved hs h.a12.symm
  obtain ⟨c3, d3⟩ := h.b3.moved hs h.a13.symm
  obtain ⟨c4, d4⟩ := h.b4.moved hs h.a14.symm
  exact ⟨hb, c2, c3, c4, d2.symm, d3.symm, d4.symm, h.a23, h.a24, h.a34⟩
theorem Nats.s2 (h : Nats w base v1 v2 v3 v4 V Bl A W) (hb : Big w' base u N) (hs : Step w w' v2 u) : Nats w' base v1 u v3 v4 V N A W := by
  obtain ⟨c1, d1⟩ := h.b1.moved hs h.a12
  obtain ⟨c3, d3⟩ := h.b3.moved hs h.a23.symm
  obtain ⟨c4, d4⟩ := h.b4.moved hs h.a24.symm
  exact ⟨c1, hb, c3, c4, d1, h.a13, h.a14, d3.symm, d4.symm, h.a34⟩
theorem Nats.s3 (h : Nats w base v1 v2 v3 v4 V Bl A W) (hb : Big w' base u N) (hs : Step w w' v3 u) : Nats w' base v1 v2 u v4 V Bl N W := by
  obtain ⟨c1, d1⟩ := h.b1.moved hs h.a13
  obtain ⟨c2, d2⟩ := h.b2.moved hs h.a23
  obtain ⟨c4, d4⟩ := h.b4.moved hs h.a34.symm
  exact ⟨c1, c2, hb, c4, h.a12, d1, h.a14, d2, h.a24, d4.symm⟩
theorem Nats.s4 (h : Nats w base v1 v2 v3 v4 V Bl A W) (hb : Big w' base u N) (hs : Step w w' v4 u) : Nats w' base v1 v2 v3 u V Bl A N := by
  obtain ⟨c1, d1⟩ := h.b1.moved hs h.a14
  obtain ⟨c2, d2⟩ := h.b2.moved hs h.a24
  obtain ⟨c3, d3⟩ := h.b3.moved hs h.a34
  exact ⟨c1, c2, c3, hb, h.a12, h.a13, d1, h.a23, d2, d3⟩
theorem Nats.keep {O : Nat → Prop} (h : Nats w base v1 v2 v3 v4 V Bl A W) (hk : Kept O w w') (h1 : ∀ k, v1.ownBlock = some k → ¬ O k) (h2 : ∀ k, v2.ownBlock = some k → ¬ O k) (h3 : ∀ k, v3.ownBlock = some k → ¬ O k) (h4 : ∀ k, v4.ownBlock = some k → ¬ O k) : Nats w' base v1 v2 v3 v4 V Bl A W :=
  ⟨h.b1.kept hk h1, h.b2.kept hk h2, h.b3.kept hk h3, h.b4.kept hk h4, h.a12, h.a13, h.a14, h.a23, h.a24, h.a34⟩
theorem Nats.below (h : Nats w base v1 v2 v3 v4 V Bl A W) (hb : Below w.heap.size w w') : Nats w' base v1 v2 v3 v4 V Bl A W :=
  ⟨h.b1.below hb, h.b2.below hb, h.b3.below hb, h.b4.below hb, h.a12, h.a13, h.a14, h.a23, h.a24, h.a34⟩
end
theorem big_not_at {w : World} {b base N : Nat} {v : Value} {cs : Array Value} {t : TypeId} (ht : t ≠ 116) (h : w.heap[b]? = some (.cells cs t (0, 0))) (hv : Big w base v N) : ¬ v.ownBlock = some b := fun e => by
  obtain ⟨a, c, ds, rfl, hr, _⟩ := hv
  rcases hr.2 with ⟨e1, _⟩ | ⟨g, cap, cur, e1, _, hg, _⟩
  · rw [e1] at e; cases e
  · rw [e1] at e
    obtain rfl : g = b := by simpa [Value.ownBlock] using e
    rw [h] at hg
    injection hg with h9
    injection h9 with _ h8
    exact absurd h8 ht
/-- Blocks but that one, and but those of words, are as they were. -/
def KeepN (b : Nat) (w w' : World) : Prop := ∀ k cs t fr, k ≠ b → t ≠ 116 → w.heap[k]? = some (.cells cs t fr) → w'.heap[k]? = some (.cells cs t fr)
theorem KeepN.refl (b : Nat) (w : World) : KeepN b w w := fun _ _ _ _ _ _ h => h
theorem KeepN.trans {b : Nat} {w w1 w2 : World} (h : KeepN b w w1) (k : KeepN b w1 w2) : KeepN b w w2 := fun i cs t fr h1 h2 h3 => k i cs t fr h1 h2 (h i cs t fr h1 h2 h3)
theorem KeepN.drewN {b : Nat} {w w1 : World} (h : KeepN b w w1) (q : Nat) : KeepN b w (w1.drewN q) := h
theorem KeepN.below {b : Nat} {w w1 : World} (h : Below w.heap.size w w1) : KeepN b w w1 := fun i _cs _t _fr _ _ h3 => (h.block i (Array.getElem?_eq_some_iff.1 h3).1).trans h3
theorem KeepN.set {b : Nat} {w w1 : World} (h : Kept (fun k => k = b) w w1) : KeepN b w w1 := fun _i _cs _t _fr h1 _ h3 => h.heap h3 h1
theorem KeepN.step {b base N : Nat} {w w1 : World} {v u : Value} (hv : Big w base v N) (h : Step w w1 v u) : KeepN b w w1 := fun i cs t fr _ h2 h3 => h.1.heap h3 (fun e => by
  obtain ⟨a, c, ds, rfl, hr, _⟩ := hv
  rcases hr.2 with ⟨e1, _⟩ | ⟨g, cap, cur, e1, _, hg, _⟩
  · rw [e1] at e; cases e
  · rw [e1] at e
    obtain rfl : g = i := by simpa [Value.ownBlock] using e
    rw [h3] at hg
    injection hg with h9
    injection h9 with _ h8
    exact absurd h8 h2)
theorem span_cells {w : World} {b : Nat} {v1 v2 v3 v4 v5 : Value} {t : TypeId} (h : w.heap[b]? = some (.cells #[v1, v2, v3, v4, v5] t (0, 0))) :
    w.cell? ⟨b, 0, none⟩ = some v1 ∧ w.cell? ⟨b, 1, none⟩ = some v2 ∧ w.cell? ⟨b, 2, none⟩ = some v3 ∧ w.cell? ⟨b, 3, none⟩ = some v4 ∧ w.cell? ⟨b, 4, none⟩ = some v5
    ∧ w.frozen? ⟨b, 0, none⟩ = false ∧ w.frozen? ⟨b, 1, none⟩ = false ∧ w.frozen? ⟨b, 2, none⟩ = false ∧ w.frozen? ⟨b, 3, none⟩ = false := by
  simp [World.cell?, World.frozen?, h]
end Go.Proofs.YtfckdleahljdeaaGreatDoor.Nu

/- A region that draws its order: loads first, then calls that write elsewhere, then stores. -/
namespace Go.Proofs.YtfckdleahljdeaaGreatDoor.Nu
open Go

section
variable {P : Program} {ops : Array Oper} {Q : Exit → Act → World → Prop} {md : Region.Mode} {S : World → Prop} {m : Nat}

/-- S is asked until operation m has come up. -/
def SM (S : World → Prop) (m : Nat) (listed : Array Bool) (w : World) : Prop := listed.getD m false = false → S w
def wpAnyM (P : Program) (md : Region.Mode) (ops : Array Oper) (Q : Exit → Act → World → Prop) (S : World → Prop) (m : Nat) : Nat → Array Bool → Act → World → Prop
  | 0, listed, a, w => Region.ready md ops listed = [] ∧ Q .normal a w
  | fuel + 1, listed, a, w =>
    (Region.ready md ops listed = [] → Q .normal a w) ∧
    ∀ i ∈ Region.ready md ops listed, wpOp P ops Q i (fun a' w' => SM S m (listed.setIfInBounds i true) w' ∧ wpAnyM P md ops Q S m fuel (listed.setIfInBounds i true) a' w') a w
theorem wpAny_of_M : ∀ (fuel : Nat) (listed : Array Bool) (a : Act) (w : World), wpAnyM P md ops Q S m fuel listed a w → wpAny P md ops Q fuel listed a w
  | 0, _, _, _, h => h
  | fuel + 1, _, _, _, h => ⟨h.1, fun i hi => wpOp_mono (fun a' w' h' => wpAny_of_M fuel _ a' w' h'.2) (h.2 i hi)⟩

theorem wpAnyM_load {i : Nat} {oi : Oper} {v : Value} (hi : ops[i]? = some oi) (hsel : ∀ (j : Nat) (o : Oper) cs b, ops[j]? = some o → o.op ≠ .select cs b)
    (hQ : ∀ c a w, Q (.panic c) (a.put oi.dst v) w → Q (.panic c) a w) (him : i ≠ m) (hwt : Region.waitsFor md ops m i = true ∨ ops.size ≤ m) :
    ∀ (fuel : Nat) (listed : Array Bool) (a : Act) (w : World),
      (∀ j oj, ops[j]? = some oj → j ≠ i → listed.getD j true = false → (∀ e ∈ oj.after, Region.binds md e = true → e.on ≠ i) → oi.apart ops oj = true) →
      i ∈ Region.ready md ops listed → YieldsIf P ops S oi v a → listed.getD m false = false → S w →
      wpAnyM P md ops Q S m fuel (listed.setIfInBounds i true) (a.put oi.dst v) w → wpAnyM P md ops Q S m (fuel + 1) listed a w := by
  intro fuel
  induction fuel with
  | zero =>
    intro listed a w _ hr hy hm hS H
    refine ⟨fun h => (by rw [h] at hr; cases hr), fun j hj => ?_⟩
    by_cases hji : j = i
    · subst hji; exact hy.wpOp hi hS ⟨fun _ => hS, H⟩
    · have := ready_mono hj hji
      rw [H.1] at this
      cases this
  | succ fuel ih =>
    intro listed a w hfree hr hy hm hS H
    refine ⟨fun h => (by rw [h] at hr; cases hr), fun j hj => ?_⟩
    by_cases hji : j = i
    · subst hji; exact hy.wpOp hi hS ⟨fun _ => hS, H⟩
    · have h1 := H.2 j (ready_mono hj hji)
      obtain ⟨hjun, oj, hoj, hall⟩ := mem_ready.1 hj
      have hnot : ∀ e ∈ oj.after, Region.binds md e = true → e.on ≠ i := fun e he hb heq => by
        have h1 := hall e he hb
        have h0 := (mem_ready.1 hr).1
        rw [heq] at h1
        rcases Nat.lt_or_ge i listed.size with h' | h'
        · simp [h'] at h0 h1; rw [h0] at h1; cases h1
        · simp [Array.getElem?_eq_none h'] at h1
      have hjm : j ≠ m := fun e => by
        subst e
        rcases hwt with hwt | hwt
        · obtain ⟨o', ho', e, he, hb, hon⟩ := Region.waitsFor_spec hwt
          have : o' = oj := Option.some.inj (ho'.symm.trans hoj)
          subst this
          exact hnot e he hb hon
        · have := (Array.getElem?_eq_some_iff.1 hoj).1
          omega
      have h2 := wpOp_putIf hoj (hfree j oj hoj hji hjun hnot) (fun cs b => hsel i oi cs b hi) (fun cs b => hsel j oj cs b hoj) hQ hy h1
      have hfree' : ∀ k ok, ops[k]? = some ok → k ≠ i → (listed.setIfInBounds j true).getD k true = false →
          (∀ e ∈ ok.after, Region.binds md e = true → e.on ≠ i) → oi.apart ops ok = true := fun k ok hk hki hun hno => by
        refine hfree k ok hk hki ?_ hno
        by_cases hjk : j = k
        · subst hjk; exact hjun
        · rw [getD_set_ne true hjk] at hun; exact hun
      have hm1 : (listed.setIfInBounds j true).getD m false = false := by rw [getD_set_ne false hjm]; exact hm
      have hm2 : ((listed.setIfInBounds i true).setIfInBounds j true).getD m false = false := by rw [getD_set_ne false hjm, getD_set_ne false him]; exact hm
      refine wpOp_mono (fun a' w' h3 => ⟨fun _ => h3.2.1 hm2, ih (listed.setIfInBounds j true) a' w' hfree' (ready_mono hr (Ne.symm hji)) h3.1 hm1 (h3.2.1 hm2) ?_⟩) h2
      rw [Array.setIfInBounds_comm _ _ hji]
      exact h3.2.2
theorem wpAnyM_pure {i : Nat} {oi : Oper} {v : Value} (hi : ops[i]? = some oi) (hsel : ∀ (j : Nat) (o : Oper) cs b, ops[j]? = some o → o.op ≠ .select cs b)
    (hQ : ∀ c a w, Q (.panic c) (a.put oi.dst v) w → Q (.panic c) a w) (him : i ≠ m) :
    ∀ (fuel : Nat) (listed : Array Bool) (a : Act) (w : World),
      (∀ j oj, ops[j]? = some oj → j ≠ i → listed.getD j true = false → (∀ e ∈ oj.after, Region.binds md e = true → e.on ≠ i) → oi.apart ops oj = true) →
      i ∈ Region.ready md ops listed → YieldsIf P ops (fun _ => True) oi v a → SM S m listed w →
      wpAnyM P md ops Q S m fuel (listed.setIfInBounds i true) (a.put oi.dst v) w → wpAnyM P md ops Q S m (fuel + 1) listed a w := by
  intro fuel
  have same : ∀ listed : Array Bool, (listed.setIfInBounds i true).getD m false = listed.getD m false := fun listed => getD_set_ne false him
  induction fuel with
  | zero =>
    intro listed a w _ hr hy hS H
    refine ⟨fun h => (by rw [h] at hr; cases hr), fun j hj => ?_⟩
    by_cases hji : j = i
    · subst hji; exact hy.wpOp hi trivial ⟨fun h => hS (by rw [same] at h; exact h), H⟩
    · have := ready_mono hj hji
      rw [H.1] at this
      cases this
  | succ fuel ih =>
    intro listed a w hfree hr hy hS H
    refine ⟨fun h => (by rw [h] at hr; cases hr), fun j hj => ?_⟩
    by_cases hji : j = i
    · subst hji; exact hy.wpOp hi trivial ⟨fun h => hS (by rw [same] at h; exact h), H⟩
    · have h1 := H.2 j (ready_mono hj hji)
      obtain ⟨hjun, oj, hoj, hall⟩ := mem_ready.1 hj
      have hnot : ∀ e ∈ oj.after, Region.binds md e = true → e.on ≠ i := fun e he hb heq => by
        have h1 := hall e he hb
        have h0 := (mem_ready.1 hr).1
        rw [heq] at h1
        rcases Nat.lt_or_ge i listed.size with h' | h'
        · simp [h'] at h0 h1; rw [h0] at h1; cases h1
        · simp [Array.getElem?_eq_none h'] at h1
      have h2 := wpOp_putIf hoj (hfree j oj hoj hji hjun hnot) (fun cs b => hsel i oi cs b hi) (fun cs b => hsel j oj cs b hoj) hQ hy h1
      have hfree' : ∀ k ok, ops[k]? = some ok → k ≠ i → (listed.setIfInBounds j true).getD k true = false →
          (∀ e ∈ ok.after, Region.binds md e = true → e.on ≠ i) → oi.apart ops ok = true := fun k ok hk hki hun hno => by
        refine hfree k ok hk hki ?_ hno
        by_cases hjk : j = k
        · subst hjk; exact hjun
        · rw [getD_set_ne true hjk] at hun; exact hun
      refine wpOp_mono (fun a' w' h3 => ?_) h2
      have hS' : SM S m (listed.setIfInBounds j true) w' := fun h => h3.2.1 (by rw [Array.setIfInBounds_comm _ _ (Ne.symm hji), same]; exact h)
      refine ⟨hS', ih (listed.setIfInBounds j true) a' w' hfree' (ready_mono hr (Ne.symm hji)) h3.1 hS' ?_⟩
      rw [Array.setIfInBounds_comm _ _ hji]
      exact h3.2.2

section
variable {i d fuel : Nat} {oi : Oper} {v : Value} {listed : Array Bool} {a : Act} {w : World}
theorem takeL (d : Nat) (hi : ops[i]? = some oi) (hd : oi.dst = some d) (hs : Region.noSelect ops = true) (hf : Region.free md ops listed i = true) (hr : (Region.ready md ops listed).contains i = true)
    (hQ : ∀ c a w, Q (.panic c) (a.put oi.dst v) w → Q (.panic c) a w) (hw : (decide (i ≠ m) && (Region.waitsFor md ops m i || decide (ops.size ≤ m))) = true) (hm : listed.getD m false = false) (hy : YieldsIf P ops S oi v a) (hS : S w)
    (h : wpAnyM P md ops Q S m fuel (listed.setIfInBounds i true) (a.put (some d) v) w) : wpAnyM P md ops Q S m (fuel + 1) listed a w := by
  simp only [Bool.and_eq_true, Bool.or_eq_true, decide_eq_true_eq] at hw
  exact wpAnyM_load hi (Region.noSelect_spec hs) hQ hw.1 hw.2 fuel listed a w (Region.free_spec hi hf) (by simpa using hr) hy hm hS (by rw [hd]; exact h)
theorem takeP (d : Nat) (hi : ops[i]? = some oi) (hd : oi.dst = some d) (hs : Region.noSelect ops = true) (hf : Region.free md ops listed i = true) (hr : (Region.ready md ops listed).contains i = true)
    (hQ : ∀ c a w, Q (.panic c) (a.put oi.dst v) w → Q (.panic c) a w) (hw : decide (i ≠ m) = true) (hy : YieldsIf P ops (fun _ => True) oi v a) (hS : S w)
    (h : wpAnyM P md ops Q S m fuel (listed.setIfInBounds i true) (a.put (some d) v) w) : wpAnyM P md ops Q S m (fuel + 1) listed a w :=
  wpAnyM_pure hi (Region.noSelect_spec hs) hQ (by simpa using hw) fuel listed a w (Region.free_spec hi hf) (by simpa using hr) hy (fun _ => hS) (by rw [hd]; exact h)
/-- The one that may come up comes up, ahead of m. -/
theorem nextS (hr : Region.ready md ops listed = [i]) (hi : ops[i]? = some oi)
    (h : ∀ K' : Act → World → Prop, Shut (∀ a w, S w → (S w → wpAnyM P md ops Q S m fuel (listed.setIfInBounds i true) a w) → K' a w) → if Region.wanted oi (yielded ops a.tmps) = true then Oper.wp P oi a w K' Q else K' (a.put oi.dst undef) w) :
    wpAnyM P md ops Q S m (fuel + 1) listed a w := by
  refine ⟨fun h0 => (by rw [hr] at h0; cases h0), fun j hj => ?_⟩
  rw [hr] at hj
  obtain rfl : j = i := by simpa using hj
  exact wpOp_step hi (fun K' hK => h K' (fun a w hS hW => hK a w ⟨fun _ => hS, hW hS⟩))
/-- The one that may come up comes up: m, or behind it. -/
theorem nextT (hr : Region.ready md ops listed = [i]) (hm : (listed.setIfInBounds i true).getD m false = true) (hi : ops[i]? = some oi)
    (h : ∀ K' : Act → World → Prop, Shut (∀ a w, wpAnyM P md ops Q S m fuel (listed.setIfInBounds i true) a w → K' a w) → if Region.wanted oi (yielded ops a.tmps) = true then Oper.wp P oi a w K' Q else K' (a.put oi.dst undef) w) :
    wpAnyM P md ops Q S m (fuel + 1) listed a w := by
  refine ⟨fun h0 => (by rw [hr] at h0; cases h0), fun j hj => ?_⟩
  rw [hr] at hj
  obtain rfl : j = i := by simpa using hj
  exact wpOp_step hi (fun K' hK => h K' (fun a w hW => hK a w ⟨fun h0 => (by rw [hm] at h0; cases h0), hW⟩))
theorem endM (hr : Region.ready md ops listed = []) (h : Q .normal a w) : ∀ fuel, wpAnyM P md ops Q S m fuel listed a w
  | 0 => ⟨hr, h⟩
  | _ + 1 => ⟨fun _ => h, by rw [hr]; simp⟩
end
theorem wp_region_M (m : Nat) {id : Nat} {a : Act} {w : World} (S : World → Prop) (hm : P.follows .mixedOrders = true) (hS : S w.drew)
    (h : S w.drew → wpAnyM P .any ops Q S m ops.size (Array.replicate ops.size false) a w.drew) : (Code.region id ops true).wp P Q a w :=
  wp_region_any hm (wpAny_of_M _ _ _ _ (h hS))
end
end Go.Proofs.YtfckdleahljdeaaGreatDoor.Nu

/- A span grows. -/
namespace Go.Proofs.YtfckdleahljdeaaGreatDoor.Nu
open Go.RowKit Go.Maps

theorem heap_set3 {w : World} {b : Nat} {v1 v2 v3 v4 v5 u1 u2 u3 : Value} {t : TypeId} (h : w.heap[b]? = some (.cells #[v1, v2, v3, v4, v5] t (0, 0))) :
    (((w.setCell ⟨b, 0, none⟩ u1).setCell ⟨b, 1, none⟩ u2).setCell ⟨b, 2, none⟩ u3).heap[b]? = some (.cells #[u1, u2, u3, v4, v5] t (0, 0)) := by
  have h1 := heap_setCell_same (i := 0) h u1
  have h2 := heap_setCell_same (i := 1) h1 u2
  have h3 := heap_setCell_same (i := 2) h2 u3
  exact h3

end Go.Proofs.YtfckdleahljdeaaGreatDoor.Nu

/- A span grows. -/
namespace Go.Proofs.YtfckdleahljdeaaGreatDoor.Nu
open Go.RowKit Go.Maps

theorem i64_ne : (3 : TypeId) ≠ 116 := by decide
theorem cell_of_int {w : World} {x : Nat} {n : Int} (h : w.heap[x]? = some (.cells #[.int .i64 n] 3 (0, 0))) : w.cell? ⟨x, 0, none⟩ = some (.int .i64 n) := by simp [World.cell?, h]
end Go.Proofs.YtfckdleahljdeaaGreatDoor.Nu

/- A span is scaled. -/
namespace Go.Proofs.YtfckdleahljdeaaGreatDoor.Nu
open Go.RowKit Go.Maps

theorem goOn {S G : World → Prop} {W : World} (h : S W) (k : ∀ W1, S W1 → G W1) : G W := k W h
theorem heap_set_at3 {w : World} {b : Nat} {v1 v2 v3 v4 v5 u : Value} {t : TypeId} (h : w.heap[b]? = some (.cells #[v1, v2, v3, v4, v5] t (0, 0))) : (w.setCell ⟨b, 3, none⟩ u).heap[b]? = some (.cells #[v1, v2, v3, u, v5] t (0, 0)) := heap_setCell_same (i := 3) h u
theorem heap_set_at0 {w : World} {b : Nat} {v1 v2 v3 v4 v5 u : Value} {t : TypeId} (h : w.heap[b]? = some (.cells #[v1, v2, v3, v4, v5] t (0, 0))) : (w.setCell ⟨b, 0, none⟩ u).heap[b]? = some (.cells #[u, v2, v3, v4, v5] t (0, 0)) := heap_setCell_same (i := 0) h u
/-- The power of ten, and the whole. -/
def scaleE (V W : Nat) (e : Int) : Int := if W * 10 ^ e.toNat ≤ V * 10 ^ (-e).toNat then e + 1 else e
def scaleW (V W : Nat) (e : Int) : Nat := if W * 10 ^ e.toNat ≤ V * 10 ^ (-e).toNat then W * 10 ^ e.toNat * 10 else W * 10 ^ e.toNat

end Go.Proofs.YtfckdleahljdeaaGreatDoor.Nu

/- How far a digit is. -/
namespace Go.Proofs.YtfckdleahljdeaaGreatDoor.Nu
open Go.RowKit Go.Maps

def withinB (c : Int) (cl : Bool) : Bool := decide (c < 0) || (decide (c = 0) && cl)
theorem within_down (r b : Nat) (cl : Bool) : withinB (cmpN r b) cl = downB r b cl := by
  unfold withinB downB cmpN
  by_cases h1 : r < b
  · simp [h1]
  · by_cases h2 : r = b
    · subst h2; simp
    · simp [h1, h2]
theorem within_up (r a w : Nat) (cl : Bool) : withinB (cmpN w (r + a)) cl = upB r a w cl := by
  unfold withinB upB cmpN
  by_cases h1 : w < r + a
  · simp [h1]
  · by_cases h2 : w = r + a
    · subst h2; simp
    · simp [h1, h2]

def nearY (V W y : Nat) : Bool := decide (2 * V < W) || (decide (2 * V = W) && decide (y % 2 = 0))
end Go.Proofs.YtfckdleahljdeaaGreatDoor.Nu

/- The shortest digits, walked. -/
namespace Go.Proofs.YtfckdleahljdeaaGreatDoor.Nu
open Go.RowKit Go.Maps

theorem len_short {Bl k m : Nat} (h : Bl * 10 ^ k < B m) (h0 : 0 < Bl) : k ≤ 32 * m := by
  rcases Nat.lt_or_ge (32 * m) k with h1 | h1
  · exfalso
    have hB : B m = 2 ^ (32 * m) := by unfold B; rw [Nat.pow_mul]
    have h2 : 2 ^ (32 * m) ≤ 2 ^ k := Nat.pow_le_pow_right (by decide) (by omega)
    have h3 : 2 ^ k ≤ 10 ^ k := Nat.pow_le_pow_left (by decide) k
    have h4 : 1 * 10 ^ k ≤ Bl * 10 ^ k := Nat.mul_le_mul_right _ h0
    omega
  · exact h1
theorem room_900 {x : Nat} (h : x < B 900 * 100) : x < B 999 := by
  have e : B 999 = B 900 * B 99 := (B_add 900 99).symm
  have h6 : 4294967296 ≤ B 99 := B_mono (show 1 ≤ 99 by decide)
  have h8 : B 900 * 4294967296 ≤ B 900 * B 99 := Nat.mul_le_mul_left _ h6
  rw [e]
  omega

end Go.Proofs.YtfckdleahljdeaaGreatDoor.Nu

/- A float's span. -/
namespace Go.Proofs.YtfckdleahljdeaaGreatDoor.Nu
open Go.RowKit Go.Maps

theorem apart_later {w w' w'' : World} {base N M : Nat} {u v : Value} (h1 : Big w base u N) (h2 : Big w' w''.heap.size v M) (h : w.heap.size ≤ w''.heap.size) : Apart u v := fun k hk hk' => by
  have q1 := (h1.lt k hk).2
  have q2 := (h2.lt k hk').1
  omega
theorem small_B {x : Nat} (h : x ≤ 18446744073709551616) : x < B 1000 := by
  have h1 := B_lt (show 2 < 1000 by decide)
  have : B 2 = 18446744073709551616 := rfl
  omega
/-- Naturals that were made one behind the other. -/
theorem span_chain {w0 w w1 w2 w3 w4 w5 w6 w7 w8 : World} {v1 v2 v3 v4 : Value} {V Bl A W : Nat} (h0 : Below w0.heap.size w0 w) (h1 : Below w.heap.size w w1) (h2 : Big w2 w1.heap.size v1 V) (h3 : Below w1.heap.size w1 w2) (h4 : Below w2.heap.size w2 w3) (h5 : Big w4 w3.heap.size v2 Bl) (h6 : Below w3.heap.size w3 w4) (h7 : Below w4.heap.size w4 w5) (h8 : Big w6 w5.heap.size v3 A) (h9 : Below w5.heap.size w5 w6) (h10 : Below w6.heap.size w6 w7) (h11 : Big w8 w7.heap.size v4 W) (h12 : Below w7.heap.size w7 w8) :
    Nats w8 w0.heap.size v1 v2 v3 v4 V Bl A W ∧ Below w0.heap.size w0 w8 ∧ Below w.heap.size w w8 := by
  have b28 : Below w2.heap.size w2 w8 := ((((h4.trans (h6.mono h4.size)).trans (h7.mono (Nat.le_trans h4.size h6.size))).trans (h9.mono (Nat.le_trans (Nat.le_trans h4.size h6.size) h7.size))).trans (h10.mono (Nat.le_trans (Nat.le_trans (Nat.le_trans h4.size h6.size) h7.size) h9.size))).trans (h12.mono (Nat.le_trans (Nat.le_trans (Nat.le_trans (Nat.le_trans h4.size h6.size) h7.size) h9.size) h10.size))
  have b48 : Below w4.heap.size w4 w8 := ((h7.trans (h9.mono h7.size)).trans (h10.mono (Nat.le_trans h7.size h9.size))).trans (h12.mono (Nat.le_trans (Nat.le_trans h7.size h9.size) h10.size))
  have b68 : Below w6.heap.size w6 w8 := h10.trans (h12.mono h10.size)
  have b08 : Below w.heap.size w w8 := (h1.trans (h3.mono h1.size)).trans (b28.mono (Nat.le_trans h1.size h3.size))
  have s1 := h1.size
  have s3 := h3.size
  have s4 := h4.size
  have s6 := h6.size
  have s7 := h7.size
  have s9 := h9.size
  have s10 := h10.size
  have s0 := h0.size
  refine ⟨⟨(h2.below b28).base (by omega), (h5.below b48).base (by omega), (h8.below b68).base (by omega), h11.base (by omega), apart_later h2 h5 (by omega), apart_later h2 h8 (by omega), apart_later h2 h11 (by omega), apart_later h5 h8 (by omega), apart_later h5 h11 (by omega), apart_later h8 h11 (by omega)⟩, h0.trans (b08.mono s0), b08⟩

end Go.Proofs.YtfckdleahljdeaaGreatDoor.Nu

/- A float's digits: numbers. -/
namespace Go.Proofs.YtfckdleahljdeaaGreatDoor.Nu
open Go.RowKit Go.Maps

def cR (raw : Nat) : Nat := (apartN raw).1
def pR (raw : Nat) : Int := (apartN raw).2
def eR (raw : Nat) : Int := expE ((cR raw).log2 + pR raw)
def vR (raw : Nat) : Nat := cR raw * 2 ^ ((pR raw).toNat + 2)
def bR (raw : Nat) : Nat := (if cR raw = 4503599627370496 ∧ -1074 < pR raw then 1 else 2) * 2 ^ (pR raw).toNat
def aR (raw : Nat) : Nat := 2 * 2 ^ (pR raw).toNat
def wR (raw : Nat) : Nat := 4 * 2 ^ (-pR raw).toNat
def clR (raw : Nat) : Bool := ((cR raw : Nat) : Int) % 2 == 0
def tR (raw : Nat) : Nat := 10 ^ (-eR raw).toNat
def EX (raw : Nat) : Int := scaleE (vR raw) (wR raw) (eR raw)
def WX (raw : Nat) : Nat := scaleW (vR raw) (wR raw) (eR raw)
def upR (l : List UInt8) (E : Int) : List UInt8 × Int := if 57 < (l.headD 0).toNat then ([49], E + 1) else (l, E)
/-- A float's digits, and the exponent of ten of 0.digits. -/
def digR (raw : Nat) : List UInt8 × Int := match shortF 30000 (vR raw * tR raw) (bR raw * tR raw) (aR raw * tR raw) (WX raw) (clR raw) with
  | some l => upR l (EX raw)
  | none => ([], 0)
structure DigF (raw : Nat) : Prop where
  c1 : 1 ≤ cR raw
  c2 : cR raw < 9007199254740992
  p1 : -1074 ≤ pR raw
  p2 : pR raw ≤ 971
  k : ((cR raw).log2 ≤ 52 ∧ pR raw = -1074) ∨ ((cR raw).log2 = 52 ∧ -1074 ≤ pR raw ∧ pR raw ≤ 971)
  e1 : -400 ≤ eR raw
  e2 : eR raw ≤ 400
theorem log_lt {c k : Nat} (h : c < 2 ^ (k + 1)) (h0 : c ≠ 0) : c.log2 ≤ k := by
  have h1 := (Nat.log2_eq_iff h0).1 rfl
  have h2 : 2 ^ c.log2 < 2 ^ (k + 1) := Nat.lt_of_le_of_lt h1.1 h
  have h3 := (Nat.pow_lt_pow_iff_right (a := 2) (by decide)).1 h2
  omega
theorem log_ge {c k : Nat} (h : 2 ^ k ≤ c) (h0 : c ≠ 0) : k ≤ c.log2 := by
  have h1 := (Nat.log2_eq_iff h0).1 rfl
  have h2 : 2 ^ k < 2 ^ (c.log2 + 1) := Nat.lt_of_le_of_lt h h1.2
  have h3 := (Nat.pow_lt_pow_iff_right (a := 2) (by decide)).1 h2
  omega
theorem dig_facts {raw : Nat} (h0 : 0 < raw) (h1 : raw < 9218868437227405312) : DigF raw := by
  have hk : (1 ≤ cR raw ∧ cR raw < 9007199254740992) ∧ (-1074 ≤ pR raw ∧ pR raw ≤ 971) ∧ (((cR raw).log2 ≤ 52 ∧ pR raw = -1074) ∨ ((cR raw).log2 = 52 ∧ -1074 ≤ pR raw ∧ pR raw ≤ 971)) := by
    unfold cR pR apartN
    split
    · refine ⟨⟨by simp; omega, by simp; omega⟩, ⟨by simp, by simp⟩, Or.inl ⟨?_, rfl⟩⟩
      exact log_lt (k := 52) (by simp; omega) (by simp; omega)
    · have q1 : raw / 4503599627370496 ≤ 2046 := by omega
      refine ⟨⟨by simp <;> omega, by simp <;> omega⟩, ⟨by simp <;> omega, by simp <;> omega⟩, Or.inr ⟨Nat.le_antisymm (log_lt (k := 52) (by simp; omega) (by simp)) (log_ge (by simp) (by simp)), by simp; omega, by simp; omega⟩⟩
  obtain ⟨⟨a, b⟩, ⟨c, d⟩, e⟩ := hk
  have hl : (cR raw).log2 ≤ 52 := by omega
  refine ⟨a, b, c, d, e, ?_, ?_⟩
  · unfold eR expE; omega
  · unfold eR expE; omega
theorem scale_lt {V W : Nat} {e : Int} (h : V * 10 ^ (-e).toNat < 10 * (W * 10 ^ e.toNat)) : V * 10 ^ (-e).toNat < scaleW V W e := by
  unfold scaleW
  split
  · omega
  · omega
/-- The value lies below the whole, and what else the digits ask. -/
theorem dig_bounds {raw : Nat} (h : DigF raw) : vR raw * tR raw < WX raw ∧ bR raw * tR raw ≤ WX raw ∧ aR raw * tR raw ≤ 2 * (bR raw * tR raw) ∧ 0 < bR raw * tR raw := by
  have hpp : 0 < 2 ^ (pR raw).toNat := Nat.pow_pos (by decide)
  have hpt : 0 < tR raw := Nat.pow_pos (by decide)
  have hv : vR raw * tR raw < WX raw := by
    refine scale_lt ?_
    have hok := okE_at h.k
    unfold okE at hok
    simp only [Bool.and_eq_true, decide_eq_true_eq] at hok
    have h1 := hok.1
    have hlog := ((Nat.log2_eq_iff (show cR raw ≠ 0 by have := h.c1; omega)).1 rfl).2
    unfold vR wR
    show cR raw * 2 ^ ((pR raw).toNat + 2) * 10 ^ (-expE ((cR raw).log2 + pR raw)).toNat < 10 * (4 * 2 ^ (-pR raw).toNat * 10 ^ (expE ((cR raw).log2 + pR raw)).toNat)
    have hX0 : 0 < 10 ^ (-expE ((cR raw).log2 + pR raw)).toNat := Nat.pow_pos (by decide)
    generalize 10 ^ (-expE ((cR raw).log2 + pR raw)).toNat = X at *
    generalize 10 ^ (expE ((cR raw).log2 + pR raw)).toNat = Y at *
    have e1 : cR raw * 2 ^ ((pR raw).toNat + 2) * X = 4 * (cR raw * 2 ^ (pR raw).toNat * X) := by
      rw [Nat.pow_add]
      simp only [Nat.mul_comm, Nat.mul_left_comm]
    have e2 : 10 * (4 * 2 ^ (-pR raw).toNat * Y) = 4 * (10 * (2 ^ (-pR raw).toNat * Y)) := by
      simp only [Nat.mul_comm, Nat.mul_left_comm]
    rw [e1, e2]
    have e3 : (2 : Nat) ^ ((cR raw).log2 + 1 + (pR raw).toNat) = 2 ^ ((cR raw).log2 + 1) * 2 ^ (pR raw).toNat := Nat.pow_add _ _ _
    rw [e3] at h1
    have h2 : cR raw * 2 ^ (pR raw).toNat * X < 2 ^ ((cR raw).log2 + 1) * 2 ^ (pR raw).toNat * X := Nat.mul_lt_mul_of_pos_right (Nat.mul_lt_mul_of_pos_right hlog hpp) hX0
    omega
  have hb1 : bR raw ≤ vR raw := by
    unfold bR vR
    have q1 : (if cR raw = 4503599627370496 ∧ -1074 < pR raw then 1 else 2) * 2 ^ (pR raw).toNat ≤ 2 * 2 ^ (pR raw).toNat := Nat.mul_le_mul_right _ (by split <;> omega)
    have q2 : 1 * 2 ^ ((pR raw).toNat + 2) ≤ cR raw * 2 ^ ((pR raw).toNat + 2) := Nat.mul_le_mul_right _ h.c1
    have q3 : 2 ^ ((pR raw).toNat + 2) = 2 ^ (pR raw).toNat * 4 := Nat.pow_add _ _ _
    omega
  have ha1 : aR raw ≤ 2 * bR raw := by
    unfold aR bR
    have q1 : 1 * 2 ^ (pR raw).toNat ≤ (if cR raw = 4503599627370496 ∧ -1074 < pR raw then 1 else 2) * 2 ^ (pR raw).toNat := Nat.mul_le_mul_right _ (by split <;> omega)
    omega
  have hb0 : 0 < bR raw := by
    unfold bR
    exact Nat.mul_pos (by split <;> omega) hpp
  refine ⟨hv, Nat.le_of_lt (Nat.lt_of_le_of_lt (Nat.mul_le_mul_right _ hb1) hv), ?_, Nat.mul_pos hb0 hpt⟩
  rw [← Nat.mul_assoc]
  exact Nat.mul_le_mul_right _ ha1
theorem B90 {x y : Nat} (h1 : x < B 40) (h2 : y ≤ B 50) : x * y < B 899 := by
  have h3 : x * y ≤ x * B 50 := Nat.mul_le_mul_left _ h2
  have h4 : x * B 50 < B 40 * B 50 := Nat.mul_lt_mul_of_pos_right h1 (B_pos 50)
  rw [B_add] at h4
  have h5 := B_lt (show 40 + 50 < 899 by decide)
  omega
theorem dig_small {raw : Nat} (h : DigF raw) : vR raw * tR raw < B 899 ∧ bR raw * tR raw < B 899 ∧ aR raw * tR raw < B 899 ∧ wR raw * 10 ^ (eR raw).toNat < B 899 ∧ WX raw < B 900 := by
  have q1 := h.p1
  have q2 := h.p2
  have ht : tR raw ≤ B 50 := pow10_lt (by have := h.e1; omega)
  have ht2 : 10 ^ (eR raw).toNat ≤ B 50 := pow10_lt (by have := h.e2; omega)
  have hs : ∀ {x k : Nat}, x < 2 ^ 53 → k ≤ 1100 → x * 2 ^ k < B 40 := fun {x k} h1 h2 => by
    have h3 : x * 2 ^ k < 2 ^ 53 * 2 ^ k := Nat.mul_lt_mul_of_pos_right h1 (Nat.pow_pos (by decide))
    rw [← Nat.pow_add] at h3
    have h4 : 2 ^ (53 + k) ≤ B 40 := pow_le_B (by omega)
    omega
  have hv : vR raw < B 40 := hs h.c2 (by omega)
  have hb : bR raw < B 40 := hs (by split <;> decide) (by omega)
  have ha : aR raw < B 40 := hs (by decide) (by omega)
  have hw : wR raw < B 40 := hs (by decide) (by omega)
  have hW := B90 hw ht2
  refine ⟨B90 hv ht, B90 hb ht, B90 ha ht, hW, ?_⟩
  unfold WX scaleW
  have e : B 900 = 4294967296 * B 899 := B_succ 899
  split <;> omega
theorem B_ten {m k : Nat} (h : 32 * m ≤ k) : B m ≤ 10 ^ k := by
  have hB : B m = 2 ^ (32 * m) := by unfold B; rw [Nat.pow_mul]
  rw [hB]
  exact Nat.le_trans (Nat.pow_le_pow_left (by decide : 2 ≤ 10) _) (Nat.pow_le_pow_right (by decide) h)
theorem dig_short {raw : Nat} (h : DigF raw) {n : Nat} {l : List UInt8} (hl : shortF n (vR raw * tR raw) (bR raw * tR raw) (aR raw * tR raw) (WX raw) (clR raw) = some l) : digR raw = upR l (EX raw) := by
  obtain ⟨b1, b2, b3, b4⟩ := dig_bounds h
  have hW := (dig_small h).2.2.2.2
  obtain ⟨N, hN⟩ : ∃ N, N = 29999 := ⟨_, rfl⟩
  have h10 : WX raw < bR raw * tR raw * 10 ^ (N + 1) := by
    have h3 : B 900 ≤ 10 ^ (N + 1) := B_ten (by omega)
    have h4 : 1 * 10 ^ (N + 1) ≤ bR raw * tR raw * 10 ^ (N + 1) := Nat.mul_le_mul_right _ b4
    omega
  obtain ⟨l', hl'⟩ := shortF_ends N (vR raw * tR raw) (bR raw * tR raw) (aR raw * tR raw) (WX raw) (clR raw) (by omega) h10
  have hl' := shortF_mono (N + 1) 0 _ _ _ _ _ _ hl'
  rw [show N + 1 + 0 = 30000 by omega] at hl'
  have := shortF_one hl hl'
  subst this
  unfold digR
  rw [hl']
end Go.Proofs.YtfckdleahljdeaaGreatDoor.Nu
