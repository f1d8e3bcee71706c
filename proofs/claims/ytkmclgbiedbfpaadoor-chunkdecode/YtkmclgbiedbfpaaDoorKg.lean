/- parts. -/
import Derived.Test.YtkmclgbiedbfpaaDoorKf
namespace Go.Proofs.YtkmclgbiedbfpaaDoor
open Go.RowKit Go.Maps Go.Shelf

theorem or_two (a b : Nat) (ha : a < 256) (hb : b < 256) : bits .or .i64 ((a : Int) * 256) (b : Int) = ((a * 256 + b : Nat) : Int) := by
  have e : (a : Int) * 256 = ((a * 256 : Nat) : Int) := by omega
  rw [e]
  show IntKind.i64.wrap ((BitVec.ofInt 64 ((a * 256 : Nat) : Int) ||| BitVec.ofInt 64 (b : Int)).toNat : Int) = _
  rw [BitVec.toNat_or, ofInt_u64 (a * 256) (by omega), ofInt_u64 b (by omega), nat_join 8 (a * 256) b (by omega) (by omega)]
  exact wrapI (by omega) (by omega)

set_option maxRecDepth 100000 in
set_option maxHeartbeats 1000000 in
theorem parts_short (v : Value) (raw : List UInt8) (w : World) (h : BytesAt w v raw) (hl : raw.length < 2) :
    Calls Tryd.prog 43 #[v] w fun e w' => e = .returned (.tuple #[.int .i64 0, .slice none 0 0]) ∧ w' = w := by
  obtain ⟨a, c, rfl, -, -, -⟩ := id h
  have hli : (raw.length : Int) < 2 := by omega
  clear h
  generalize raw.length = n at *
  go_enter Tryd.func43, Tryd.ntmps43
  go_wp2
  go_ret2
  exact ⟨rfl, rfl⟩

set_option maxRecDepth 100000 in
set_option maxHeartbeats 1000000 in
theorem parts_any (v : Value) (x y : UInt8) (t : List UInt8) (w : World) (h : BytesAt w v (x :: y :: t)) (hl : t.length ≤ 1000000) :
    Calls Tryd.prog 43 #[v] w fun e w' => ∃ v', e = .returned (.tuple #[.int .i64 ((x.toNat * 256 + y.toNat : Nat) : Int), v']) ∧ (∀ W', BytesAt W' v (x :: y :: t) → BytesAt W' v' t) ∧ ∃ k, w' = w.drewN k := by
  obtain ⟨a, c, rfl, hlc, -, -⟩ := id h
  obtain ⟨b, o, rfl, h0⟩ := h.one 0 (by simp)
  obtain ⟨b', o', e, h1⟩ := h.one 1 (by simp)
  cases e
  have c0 : w.cell? ⟨b, o, none⟩ = some (.int .u8 x.toNat) := h0 w (Below.refl _ _)
  have c1 : w.cell? ⟨b, o + 1, none⟩ = some (.int .u8 y.toNat) := h1 w (Below.refl _ _)
  have HR : Hid (∀ W', BytesAt W' (.slice (some ⟨b, o, none⟩) (x :: y :: t).length c) (x :: y :: t) → BytesAt W' (.slice (if c = 2 then some ⟨b, o, none⟩ else some ⟨b, o + 2, none⟩) t.length (c - 2)) t) := fun W' h' => by
    have hr := h'.rest 2 (by simp)
    have e : (x :: y :: t).length - 2 = t.length := by simp
    rw [e] at hr
    exact hr
  have hlen : (x :: y :: t).length = t.length + 2 := by simp
  rw [hlen] at hlc HR ⊢
  unfold maxLen at hlc
  have hx := x.toNat_lt
  have hy := y.toNat_lt
  have hor := or_two x.toNat y.toNat hx hy
  obtain ⟨s, hs⟩ : ∃ s, s = x.toNat * 256 + y.toNat := ⟨_, rfl⟩
  rw [← hs] at hor ⊢
  clear h h0 h1 hlen hs
  generalize x.toNat = X at *
  generalize y.toNat = Y at *
  generalize t.length = n at *
  by_cases hc2 : c = 2
  · subst hc2
    obtain rfl : n = 0 := by omega
    have HR2 : Hid (∀ W', BytesAt W' (.slice (some ⟨b, o, none⟩) (0 + 2) 2) (x :: y :: t) → BytesAt W' (.slice (some ⟨b, o, none⟩) 0 0) t) := HR.out
    clear HR
    go_enter Tryd.func43, Tryd.ntmps43
    go_wp2
    go_quiet (fail)
    go_wp2
    go_ret2
    exact ⟨_, rfl, HR2.out, nq, rfl⟩
  · have HR2 : Hid (∀ W', BytesAt W' (.slice (some ⟨b, o, none⟩) (n + 2) c) (x :: y :: t) → BytesAt W' (.slice (some ⟨b, o + 2, none⟩) n (c - 2)) t) := by
      have hr := HR.out
      rw [if_neg hc2] at hr
      exact hr
    clear HR
    go_enter Tryd.func43, Tryd.ntmps43
    go_wp2
    go_quiet (fail)
    go_wp2
    go_ret2
    exact ⟨_, rfl, HR2.out, nq, rfl⟩

/-- What a round of the consumer leaves: unpackers as they were. -/
def KeepU (w0 : World) (W W' : World) : Prop := Below w0.heap.size W W' ∧ ∀ (k : Nat) (cs : Array Value) (fr : Nat × Nat), W.heap[k]? = some (Obj.cells cs 93 fr) → W'.heap[k]? = some (Obj.cells cs 93 fr)
theorem KeepU.trans {w0 A B C : World} (h : KeepU w0 A B) (k : KeepU w0 B C) : KeepU w0 A C := ⟨h.1.trans k.1, fun i cs fr e => k.2 i cs fr (h.2 i cs fr e)⟩
def encP (x : Sm) : Array Value := #[.int .i64 (sg x.1), .float .f64 x.2.toNat]
theorem frombits_run (n : Int) (W : World) : (callFunc 41 #[.int .u64 n]).run Tryd.prog W = .ok (.value (.float .f64 n.toNat)) W := by kernel_rfl
theorem decL_succ {n : Nat} {f : Bool} {s s' : An} {r r' : List Bool} (h : nextD f s r = some (s', r')) : decL (n + 1) f s r = (UInt64.ofNat s'.t, UInt64.ofNat s'.v) :: decL n false s' r' := by rw [decL, h]
theorem decL_none {n : Nat} {f : Bool} {s : An} {r : List Bool} (h : nextD f s r = none) : decL n f s r = [] := by
  cases n with
  | zero => rfl
  | succ n => rw [decL, h]
theorem sg_of (t : Nat) (h : t < 18446744073709551616) : IntKind.i64.wrap (t : Int) = sg (UInt64.ofNat t) := by
  have e : (UInt64.ofNat t).toNat = t := by rw [UInt64.toNat_ofNat']; exact Nat.mod_eq_of_lt h
  unfold sg
  rw [e, IntWalk.i64_left]
  split
  · exact IntWalk.wrap64_in _ ⟨by omega, by omega⟩
  · unfold wrap64
    omega

end Go.Proofs.YtkmclgbiedbfpaaDoor
