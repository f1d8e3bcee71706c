/- What the pair does that its operations do. -/
import Derived.Test.YtipakfdebccchaaMJ4
namespace Go.Proofs.Ytipakfdebccchaa
open Go.RowKit Go.Maps Go.Sort

set_option maxRecDepth 100000 in
set_option maxHeartbeats 2000000 in
theorem does_op0 {w : World} {p d r base k : Nat} {a : RA} (h : PW w p d r base k a) (x : OpV) (hbw : base ≤ w.heap.size) (hact : x.act % 11 = 0) (ha1 : -9223372036854775808 ≤ x.act) (ha2 : x.act ≤ 9223372036854775807) (b : RA)
    (HO0 : ∀ W, PW W p d r base k a → Below base w W → base ≤ W.heap.size → Calls Try.prog 27 #[.pointer (some ⟨p, 0, none⟩), .agg #[.int .i64 0, .int .i64 x.n, .int .i64 x.k, .string x.name, .string x.dest, x.bv, x.cv]] W fun e w' => e = .returned (.bool true) ∧ Done W w' p d r base k b) :
    Calls Try.prog 7 #[.pointer (some ⟨p, 0, none⟩), .agg #[.int .i64 x.act, .int .i64 x.n, .int .i64 x.k, .string x.name, .string x.dest, x.bv, x.cv]] w fun e w' => e = .returned (.bool true) ∧ Done w w' p d r base k b := by
  have HO : Hid (∀ W, W = w.alloc (.cells #[.int .i64 0, .int .i64 x.n, .int .i64 x.k, .string x.name, .string x.dest, x.bv, x.cv] 34) → Calls Try.prog 27 #[.pointer (some ⟨p, 0, none⟩), .agg #[.int .i64 0, .int .i64 x.n, .int .i64 x.k, .string x.name, .string x.dest, x.bv, x.cv]] W fun e w' => e = .returned (.bool true) ∧ Done w w' p d r base k b) := fun W hW => by
    obtain ⟨h1, h2, h3, h4, h5⟩ := boxed h x hbw 0 W hW
    exact (HO0 W h2 h4 h5).mono (fun e w' ⟨he, hD⟩ => ⟨he, hD.from_ h4⟩)
  have HW : Hid (∀ W, Calls Try.prog 17 #[.int .i64 x.act, .int .i64 11] W fun e w' => e = .returned (.int .i64 0) ∧ w' = W) := fun W => by
    rw [← hact]
    exact within_any x.act 11 W (by decide) (by decide) ha1 ha2
  clear h hact ha1 ha2 HO0
  go_enter Try.func7, Try.ntmps7
  go_wp2_with (first
    | (go_at_call 17; refine (HW.out _).mono ?_; rintro e w1 ⟨rfl, rfl⟩)
    | (go_at_call 27; refine (HO.out _ rfl).mono ?_; rintro e w1 ⟨rfl, hD⟩))
  go_ret
  exact ⟨rfl, hD⟩

set_option maxRecDepth 100000 in
set_option maxHeartbeats 2000000 in
theorem does_op1 {w : World} {p d r base k : Nat} {a : RA} (h : PW w p d r base k a) (x : OpV) (hbw : base ≤ w.heap.size) (hact : x.act % 11 = 1) (ha1 : -9223372036854775808 ≤ x.act) (ha2 : x.act ≤ 9223372036854775807) (b : RA)
    (HO0 : ∀ W, PW W p d r base k a → Below base w W → base ≤ W.heap.size → Calls Try.prog 27 #[.pointer (some ⟨p, 0, none⟩), .agg #[.int .i64 1, .int .i64 x.n, .int .i64 x.k, .string x.name, .string x.dest, x.bv, x.cv]] W fun e w' => e = .returned (.bool true) ∧ Done W w' p d r base k b) :
    Calls Try.prog 7 #[.pointer (some ⟨p, 0, none⟩), .agg #[.int .i64 x.act, .int .i64 x.n, .int .i64 x.k, .string x.name, .string x.dest, x.bv, x.cv]] w fun e w' => e = .returned (.bool true) ∧ Done w w' p d r base k b := by
  have HO : Hid (∀ W, W = w.alloc (.cells #[.int .i64 1, .int .i64 x.n, .int .i64 x.k, .string x.name, .string x.dest, x.bv, x.cv] 34) → Calls Try.prog 27 #[.pointer (some ⟨p, 0, none⟩), .agg #[.int .i64 1, .int .i64 x.n, .int .i64 x.k, .string x.name, .string x.dest, x.bv, x.cv]] W fun e w' => e = .returned (.bool true) ∧ Done w w' p d r base k b) := fun W hW => by
    obtain ⟨h1, h2, h3, h4, h5⟩ := boxed h x hbw 1 W hW
    exact (HO0 W h2 h4 h5).mono (fun e w' ⟨he, hD⟩ => ⟨he, hD.from_ h4⟩)
  have HW : Hid (∀ W, Calls Try.prog 17 #[.int .i64 x.act, .int .i64 11] W fun e w' => e = .returned (.int .i64 1) ∧ w' = W) := fun W => by
    rw [← hact]
    exact within_any x.act 11 W (by decide) (by decide) ha1 ha2
  clear h hact ha1 ha2 HO0
  go_enter Try.func7, Try.ntmps7
  go_wp2_with (first
    | (go_at_call 17; refine (HW.out _).mono ?_; rintro e w1 ⟨rfl, rfl⟩)
    | (go_at_call 27; refine (HO.out _ rfl).mono ?_; rintro e w1 ⟨rfl, hD⟩))
  go_ret
  exact ⟨rfl, hD⟩

set_option maxRecDepth 100000 in
set_option maxHeartbeats 2000000 in
theorem does_op2 {w : World} {p d r base k : Nat} {a : RA} (h : PW w p d r base k a) (x : OpV) (hbw : base ≤ w.heap.size) (hact : x.act % 11 = 2) (ha1 : -9223372036854775808 ≤ x.act) (ha2 : x.act ≤ 9223372036854775807) (b : RA)
    (HO0 : ∀ W, PW W p d r base k a → Below base w W → base ≤ W.heap.size → Calls Try.prog 27 #[.pointer (some ⟨p, 0, none⟩), .agg #[.int .i64 2, .int .i64 x.n, .int .i64 x.k, .string x.name, .string x.dest, x.bv, x.cv]] W fun e w' => e = .returned (.bool true) ∧ Done W w' p d r base k b) :
    Calls Try.prog 7 #[.pointer (some ⟨p, 0, none⟩), .agg #[.int .i64 x.act, .int .i64 x.n, .int .i64 x.k, .string x.name, .string x.dest, x.bv, x.cv]] w fun e w' => e = .returned (.bool true) ∧ Done w w' p d r base k b := by
  have HO : Hid (∀ W, W = w.alloc (.cells #[.int .i64 2, .int .i64 x.n, .int .i64 x.k, .string x.name, .string x.dest, x.bv, x.cv] 34) → Calls Try.prog 27 #[.pointer (some ⟨p, 0, none⟩), .agg #[.int .i64 2, .int .i64 x.n, .int .i64 x.k, .string x.name, .string x.dest, x.bv, x.cv]] W fun e w' => e = .returned (.bool true) ∧ Done w w' p d r base k b) := fun W hW => by
    obtain ⟨h1, h2, h3, h4, h5⟩ := boxed h x hbw 2 W hW
    exact (HO0 W h2 h4 h5).mono (fun e w' ⟨he, hD⟩ => ⟨he, hD.from_ h4⟩)
  have HW : Hid (∀ W, Calls Try.prog 17 #[.int .i64 x.act, .int .i64 11] W fun e w' => e = .returned (.int .i64 2) ∧ w' = W) := fun W => by
    rw [← hact]
    exact within_any x.act 11 W (by decide) (by decide) ha1 ha2
  clear h hact ha1 ha2 HO0
  go_enter Try.func7, Try.ntmps7
  go_wp2_with (first
    | (go_at_call 17; refine (HW.out _).mono ?_; rintro e w1 ⟨rfl, rfl⟩)
    | (go_at_call 27; refine (HO.out _ rfl).mono ?_; rintro e w1 ⟨rfl, hD⟩))
  go_ret
  exact ⟨rfl, hD⟩

set_option maxRecDepth 100000 in
set_option maxHeartbeats 2000000 in
theorem does_op3 {w : World} {p d r base k : Nat} {a : RA} (h : PW w p d r base k a) (x : OpV) (hbw : base ≤ w.heap.size) (hact : x.act % 11 = 3) (ha1 : -9223372036854775808 ≤ x.act) (ha2 : x.act ≤ 9223372036854775807) (b : RA)
    (HO0 : ∀ W, PW W p d r base k a → Below base w W → base ≤ W.heap.size → Calls Try.prog 27 #[.pointer (some ⟨p, 0, none⟩), .agg #[.int .i64 3, .int .i64 x.n, .int .i64 x.k, .string x.name, .string x.dest, x.bv, x.cv]] W fun e w' => e = .returned (.bool true) ∧ Done W w' p d r base k b) :
    Calls Try.prog 7 #[.pointer (some ⟨p, 0, none⟩), .agg #[.int .i64 x.act, .int .i64 x.n, .int .i64 x.k, .string x.name, .string x.dest, x.bv, x.cv]] w fun e w' => e = .returned (.bool true) ∧ Done w w' p d r base k b := by
  have HO : Hid (∀ W, W = w.alloc (.cells #[.int .i64 3, .int .i64 x.n, .int .i64 x.k, .string x.name, .string x.dest, x.bv, x.cv] 34) → Calls Try.prog 27 #[.pointer (some ⟨p, 0, none⟩), .agg #[.int .i64 3, .int .i64 x.n, .int .i64 x.k, .string x.name, .string x.dest, x.bv, x.cv]] W fun e w' => e = .returned (.bool true) ∧ Done w w' p d r base k b) := fun W hW => by
    obtain ⟨h1, h2, h3, h4, h5⟩ := boxed h x hbw 3 W hW
    exact (HO0 W h2 h4 h5).mono (fun e w' ⟨he, hD⟩ => ⟨he, hD.from_ h4⟩)
  have HW : Hid (∀ W, Calls Try.prog 17 #[.int .i64 x.act, .int .i64 11] W fun e w' => e = .returned (.int .i64 3) ∧ w' = W) := fun W => by
    rw [← hact]
    exact within_any x.act 11 W (by decide) (by decide) ha1 ha2
  clear h hact ha1 ha2 HO0
  go_enter Try.func7, Try.ntmps7
  go_wp2_with (first
    | (go_at_call 17; refine (HW.out _).mono ?_; rintro e w1 ⟨rfl, rfl⟩)
    | (go_at_call 27; refine (HO.out _ rfl).mono ?_; rintro e w1 ⟨rfl, hD⟩))
  go_ret
  exact ⟨rfl, hD⟩

set_option maxRecDepth 100000 in
set_option maxHeartbeats 2000000 in
theorem does_op4 {w : World} {p d r base k : Nat} {a : RA} (h : PW w p d r base k a) (x : OpV) (hbw : base ≤ w.heap.size) (hact : x.act % 11 = 4) (ha1 : -9223372036854775808 ≤ x.act) (ha2 : x.act ≤ 9223372036854775807) (b : RA)
    (HO0 : ∀ W, PW W p d r base k a → Below base w W → base ≤ W.heap.size → Calls Try.prog 27 #[.pointer (some ⟨p, 0, none⟩), .agg #[.int .i64 4, .int .i64 x.n, .int .i64 x.k, .string x.name, .string x.dest, x.bv, x.cv]] W fun e w' => e = .returned (.bool true) ∧ Done W w' p d r base k b) :
    Calls Try.prog 7 #[.pointer (some ⟨p, 0, none⟩), .agg #[.int .i64 x.act, .int .i64 x.n, .int .i64 x.k, .string x.name, .string x.dest, x.bv, x.cv]] w fun e w' => e = .returned (.bool true) ∧ Done w w' p d r base k b := by
  have HO : Hid (∀ W, W = w.alloc (.cells #[.int .i64 4, .int .i64 x.n, .int .i64 x.k, .string x.name, .string x.dest, x.bv, x.cv] 34) → Calls Try.prog 27 #[.pointer (some ⟨p, 0, none⟩), .agg #[.int .i64 4, .int .i64 x.n, .int .i64 x.k, .string x.name, .string x.dest, x.bv, x.cv]] W fun e w' => e = .returned (.bool true) ∧ Done w w' p d r base k b) := fun W hW => by
    obtain ⟨h1, h2, h3, h4, h5⟩ := boxed h x hbw 4 W hW
    exact (HO0 W h2 h4 h5).mono (fun e w' ⟨he, hD⟩ => ⟨he, hD.from_ h4⟩)
  have HW : Hid (∀ W, Calls Try.prog 17 #[.int .i64 x.act, .int .i64 11] W fun e w' => e = .returned (.int .i64 4) ∧ w' = W) := fun W => by
    rw [← hact]
    exact within_any x.act 11 W (by decide) (by decide) ha1 ha2
  clear h hact ha1 ha2 HO0
  go_enter Try.func7, Try.ntmps7
  go_wp2_with (first
    | (go_at_call 17; refine (HW.out _).mono ?_; rintro e w1 ⟨rfl, rfl⟩)
    | (go_at_call 27; refine (HO.out _ rfl).mono ?_; rintro e w1 ⟨rfl, hD⟩))
  go_ret
  exact ⟨rfl, hD⟩

set_option maxRecDepth 100000 in
set_option maxHeartbeats 2000000 in
theorem does_op5 {w : World} {p d r base k : Nat} {a : RA} (h : PW w p d r base k a) (x : OpV) (hbw : base ≤ w.heap.size) (hact : x.act % 11 = 5) (ha1 : -9223372036854775808 ≤ x.act) (ha2 : x.act ≤ 9223372036854775807) (b : RA)
    (HO0 : ∀ W, PW W p d r base k a → Below base w W → base ≤ W.heap.size → Calls Try.prog 27 #[.pointer (some ⟨p, 0, none⟩), .agg #[.int .i64 5, .int .i64 x.n, .int .i64 x.k, .string x.name, .string x.dest, x.bv, x.cv]] W fun e w' => e = .returned (.bool true) ∧ Done W w' p d r base k b) :
    Calls Try.prog 7 #[.pointer (some ⟨p, 0, none⟩), .agg #[.int .i64 x.act, .int .i64 x.n, .int .i64 x.k, .string x.name, .string x.dest, x.bv, x.cv]] w fun e w' => e = .returned (.bool true) ∧ Done w w' p d r base k b := by
  have HO : Hid (∀ W, W = w.alloc (.cells #[.int .i64 5, .int .i64 x.n, .int .i64 x.k, .string x.name, .string x.dest, x.bv, x.cv] 34) → Calls Try.prog 27 #[.pointer (some ⟨p, 0, none⟩), .agg #[.int .i64 5, .int .i64 x.n, .int .i64 x.k, .string x.name, .string x.dest, x.bv, x.cv]] W fun e w' => e = .returned (.bool true) ∧ Done w w' p d r base k b) := fun W hW => by
    obtain ⟨h1, h2, h3, h4, h5⟩ := boxed h x hbw 5 W hW
    exact (HO0 W h2 h4 h5).mono (fun e w' ⟨he, hD⟩ => ⟨he, hD.from_ h4⟩)
  have HW : Hid (∀ W, Calls Try.prog 17 #[.int .i64 x.act, .int .i64 11] W fun e w' => e = .returned (.int .i64 5) ∧ w' = W) := fun W => by
    rw [← hact]
    exact within_any x.act 11 W (by decide) (by decide) ha1 ha2
  clear h hact ha1 ha2 HO0
  go_enter Try.func7, Try.ntmps7
  go_wp2_with (first
    | (go_at_call 17; refine (HW.out _).mono ?_; rintro e w1 ⟨rfl, rfl⟩)
    | (go_at_call 27; refine (HO.out _ rfl).mono ?_; rintro e w1 ⟨rfl, hD⟩))
  go_ret
  exact ⟨rfl, hD⟩

end Go.Proofs.Ytipakfdebccchaa
