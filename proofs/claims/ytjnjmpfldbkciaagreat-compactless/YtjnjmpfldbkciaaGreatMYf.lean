/- Texts that belong together. -/
import Derived.Test.YtjnjmpfldbkciaaGreatMYi
import Derived.Test.YtjnjmpfldbkciaaGreatYd
/- slices.SortStableFunc of fewer than twenty samples; slices.CompactFunc of samples that rise; risenSamples. -/
namespace Go.Proofs.YtjnjmpfldbkciaaGreat
open Go.RowKit Go.Sort Go.Shelf Go.Lib

set_option maxRecDepth 100000 in
set_option maxHeartbeats 1000000 in
theorem stableSm (n : Nat) (g c : Nat) (xs : List Sm) (w : World) (base : Nat) (hn : xs.length = n) (h : w.ownsRow base 42 2 (.slice (some ⟨g, 0, none⟩) n c) n (smC xs)) (hl : n < 20) :
    Calls Tryz.prog 98 #[.slice (some ⟨g, 0, none⟩) n c, .int .i64 n, .func (.func 87) #[] #[]] w fun e w' => e = .returned (.tuple #[]) ∧ w'.ownsRow base 42 2 (.slice (some ⟨g, 0, none⟩) n c) n (smC (insS xs)) ∧ Kept (fun i => i = g) w w' := by
  have hins := insSm_any n g c xs w base hn h (by omega)
  have hb1 : (n : Int) < 20 := by omega
  clear h hn
  go_enter Tryz.func98, Tryz.ntmps98
  go_wp2
  go_loopw [7, 8] (fun x y wr => x = .int .i64 0 ∧ y = .int .i64 20 ∧ wr = w) (fun _ _ _ => 0)
  case atStart => exact ⟨rfl, rfl, rfl⟩
  case round =>
    obtain ⟨rfl, rfl, rfl⟩ := hrel
    go_wp2_with (go_at_call 101; refine hins.mono ?_; clear hins; rintro e w1 ⟨rfl, hr1, hk1⟩)
    have HR1 : Hid _ := hr1
    have HK1 : Hid _ := hk1
    clear hr1 hk1
    go_loopw [6, 7, 8] (fun x _ _ wr => x = .int .i64 20 ∧ wr = w1) (fun _ _ _ _ => 0)
    case atStart => exact ⟨rfl, rfl⟩
    case round =>
      obtain ⟨rfl, rfl⟩ := hrel
      go_wp2
      go_end0
      exact ⟨rfl, HR1.out, HK1.out⟩

set_option maxRecDepth 100000 in
set_option maxHeartbeats 1000000 in
theorem sortStSm (n : Nat) (g c : Nat) (xs : List Sm) (w : World) (base : Nat) (hn : xs.length = n) (h : w.ownsRow base 42 2 (.slice (some ⟨g, 0, none⟩) n c) n (smC xs)) (hl : n < 20) :
    Calls Tryz.prog 86 #[.slice (some ⟨g, 0, none⟩) n c, .func (.func 87) #[] #[]] w fun e w' => e = .returned (.tuple #[]) ∧ w'.ownsRow base 42 2 (.slice (some ⟨g, 0, none⟩) n c) n (smC (insS xs)) ∧ Kept (fun i => i = g) w w' := by
  have hins := stableSm n g c xs w base hn h hl
  clear h hn
  go_enter Tryz.func86, Tryz.ntmps86
  go_wp2_with (go_at_call 98; refine hins.mono ?_; clear hins; rintro e w1 ⟨rfl, hr1, hk1⟩)
  go_end0
  exact ⟨rfl, hr1, hk1⟩

set_option maxHeartbeats 1000000 in
theorem closureE (x y : Sm) (W : World) : Calls Tryz.prog 89 #[.agg #[.int .i64 x.1, .float .f64 x.2], .agg #[.int .i64 y.1, .float .f64 y.2]] W fun e w' => e = .returned (.bool (decide (x.1 = y.1))) ∧ ∃ q os', w' = grow (W.drewN q) os' := by
  obtain ⟨x1, x2⟩ := x
  obtain ⟨y1, y2⟩ := y
  dsimp only
  by_cases h : x1 = y1
  · go_enter Tryz.func89, Tryz.ntmps89
    go_wp2
    go_ret
    exact ⟨by simp [h], 0, _, by rw [alloc_eq_grow, alloc_eq_grow, grow_grow]; rfl⟩
  · go_enter Tryz.func89, Tryz.ntmps89
    go_wp2
    go_ret
    exact ⟨by simp [h], 0, _, by rw [alloc_eq_grow, alloc_eq_grow, grow_grow]; rfl⟩

theorem below_grow (w : World) (q : Nat) (os : Array Obj) : Below w.heap.size w (grow (w.drewN q) os) :=
  ⟨rfl, rfl, rfl, by simp, fun k hk => heap_grow_old _ _ (by simpa using hk)⟩

set_option maxRecDepth 100000 in
set_option maxHeartbeats 1000000 in
theorem compactSm (n : Nat) (g c : Nat) (xs : List Sm) (w : World) (hn : xs.length = n) (h : SmAt w (.slice (some ⟨g, 0, none⟩) n c) xs) (hl : n < 1000000) (hd : ∀ i (h : i + 1 < xs.length), xs[i + 1].1 ≠ xs[i].1) :
    Calls Tryz.prog 88 #[.slice (some ⟨g, 0, none⟩) n c, .func (.func 89) #[] #[]] w fun e w' => e = .returned (.slice (some ⟨g, 0, none⟩) n c) ∧ Below w.heap.size w w' := by
  subst hn
  have mixed := (Tryz.insSm).mixed
  have HS : Hid (SmAt w (.slice (some ⟨g, 0, none⟩) xs.length c) xs) := h
  have HD : Hid (∀ i (h : i + 1 < xs.length), xs[i + 1].1 ≠ xs[i].1) := hd
  clear h hd
  by_cases h2 : (xs.length : Int) < 2
  · go_enter Tryz.func88, Tryz.ntmps88
    go_wp2
    go_ret
    exact ⟨rfl, Below.refl _ _⟩
  · go_enter Tryz.func88, Tryz.ntmps88
    go_wp2
    go_loopw [5] (fun i wr => ∃ k : Nat, 1 ≤ k ∧ k ≤ xs.length ∧ i = .int .i64 k ∧ Hid (Below w.heap.size w wr)) (fun i _ => xs.length - (intOf i).toNat)
    case atStart => exact ⟨1, by omega, by omega, rfl, Below.refl _ _⟩
    case round =>
      obtain ⟨k, hk1, hk, rfl, hb⟩ := hrel
      by_cases hlt : k < xs.length
      · obtain ⟨j, rfl⟩ : ∃ j, k = j + 1 := ⟨k - 1, by omega⟩
        have hne := HD.out j hlt
        have hc1 : ∀ q os, (grow (wr.drewN q) os).cell? ⟨g, (j + 1) * 2, none⟩ = some (.int .i64 xs[j + 1].1) ∧ (grow (wr.drewN q) os).cell? ⟨g, (j + 1) * 2 + 1, none⟩ = some (.float .f64 xs[j + 1].2) := fun q os => by
          obtain ⟨b, o, e, hone⟩ := SmAt.one HS.out (j + 1) hlt
          cases e
          have h9 := hone _ (hb.out.trans ((below_grow wr q os).mono hb.out.size))
          rw [Nat.zero_add] at h9
          exact h9
        have hc2 : ∀ q os, (grow (wr.drewN q) os).cell? ⟨g, j * 2, none⟩ = some (.int .i64 xs[j].1) ∧ (grow (wr.drewN q) os).cell? ⟨g, j * 2 + 1, none⟩ = some (.float .f64 xs[j].2) := fun q os => by
          obtain ⟨b, o, e, hone⟩ := SmAt.one HS.out j (by omega)
          cases e
          have h9 := hone _ (hb.out.trans ((below_grow wr q os).mono hb.out.size))
          rw [Nat.zero_add] at h9
          exact h9
        have ha1 := fun q os => (hc1 q os).1
        have ha2 := fun q os => (hc1 q os).2
        have ha3 := fun q os => (hc2 q os).1
        have ha4 := fun q os => (hc2 q os).2
        clear hc1 hc2
        generalize xs[j + 1] = x at *
        generalize xs[j] = y at *
        obtain ⟨x1, x2⟩ := x
        obtain ⟨y1, y2⟩ := y
        dsimp only at *
        have HE := fun q os => closureE (x1, x2) (y1, y2) (grow (wr.drewN q) os)
        have hdn : decide (x1 = y1) = false := by simpa using hne
        dsimp only at HE
        rw [hdn] at HE
        have hjl : (j : Int) + 1 < (xs.length : Int) := by omega
        have p0 : (0 : Int) ≤ (j : Int) + 1 := by omega
        have e0 : ((j : Int) + 1).toNat = j + 1 := by omega
        have hwp : IntKind.i64.wrap (j : Int) = (j : Int) := by rw [IntKind.wrap_i64]; omega
        have hjl2 : (j : Int) < (xs.length : Int) := by omega
        go_wp2_with fail
        go_quiet_grown (first | (go_at_call 89; refine Calls.grown_of (HE _ _)))
        go_wp2
        go_roundw
        case rel => exact ⟨j + 1 + 1, by omega, by omega, by go_num, hb.out.trans ((below_grow wr _ _).mono hb.out.size)⟩
        case measure => simp [intOf]; omega
      · have hkl : ¬ (k : Int) < (xs.length : Int) := by omega
        go_wp2
        go_ret
        exact ⟨rfl, hb.out⟩

end Go.Proofs.YtjnjmpfldbkciaaGreat

/- risenSamples; slices.SortStableFunc of one series. -/
namespace Go.Proofs.YtjnjmpfldbkciaaGreat
open Go.RowKit Go.Sort Go.Shelf Go.Lib

set_option maxRecDepth 100000 in
set_option maxHeartbeats 1000000 in
theorem risenSm (n : Nat) (g c : Nat) (xs : List Sm) (w : World) (base : Nat) (hn : xs.length = n) (hin : (insS xs).length = n) (h : w.ownsRow base 42 2 (.slice (some ⟨g, 0, none⟩) n c) n (smC xs)) (hl : n < 20) (hd : ∀ i (h : i + 1 < (insS xs).length), (insS xs)[i + 1].1 ≠ (insS xs)[i].1) :
    Calls Tryz.prog 74 #[.slice (some ⟨g, 0, none⟩) n c] w fun e w' => e = .returned (.slice (some ⟨g, 0, none⟩) n c) ∧ w'.ownsRow base 42 2 (.slice (some ⟨g, 0, none⟩) n c) n (smC (insS xs)) ∧ Kept (fun i => i = g) w w' := by
  have hs := sortStSm n g c xs w base hn h hl
  have HC : Hid (∀ W, W.ownsRow base 42 2 (.slice (some ⟨g, 0, none⟩) n c) n (smC (insS xs)) → Calls Tryz.prog 88 #[.slice (some ⟨g, 0, none⟩) n c, .func (.func 89) #[] #[]] W fun e w' => e = .returned (.slice (some ⟨g, 0, none⟩) n c) ∧ Below W.heap.size W w') := fun W hW => compactSm n g c (insS xs) W hin (by
    have h9 := RowAt.of_row hW
    unfold SmAt
    rw [hin]
    exact h9) (by omega) hd
  clear h hd hin hn
  go_enter Tryz.func74, Tryz.ntmps74
  go_wp2_with (first
    | (go_at_call 86; refine hs.mono ?_; clear hs; rintro e w1 ⟨rfl, hr1, hk1⟩; have hc := HC.out w1 hr1; have HR1 : Hid _ := hr1; have HK1 : Hid _ := hk1; clear hr1 hk1)
    | (go_at_call 88; refine hc.mono ?_; clear hc; rintro e w2 ⟨rfl, hb2⟩))
  go_ret
  exact ⟨rfl, row_below HR1.out hb2, HK1.out.below hb2⟩

set_option maxRecDepth 100000 in
set_option maxHeartbeats 1000000 in
theorem insSr1 (a : Option Addr) (c : Nat) (f : Value) (w : World) :
    Calls Tryz.prog 96 #[.slice a 1 c, .int .i64 0, .int .i64 1, f] w fun e w' => e = .returned (.tuple #[]) ∧ w' = w := by
  go_enter Tryz.func96, Tryz.ntmps96
  go_wp2
  go_loopw [8] (fun x wr => x = .int .i64 1 ∧ wr = w) (fun _ _ => 0)
  case atStart => exact ⟨rfl, rfl⟩
  case round =>
    obtain ⟨rfl, rfl⟩ := hrel
    go_wp2
    go_end0
    exact ⟨rfl, rfl⟩
set_option maxRecDepth 100000 in
set_option maxHeartbeats 1000000 in
theorem stableSr1 (a : Option Addr) (c : Nat) (f : Value) (w : World) :
    Calls Tryz.prog 85 #[.slice a 1 c, .int .i64 1, f] w fun e w' => e = .returned (.tuple #[]) ∧ w' = w := by
  have hins := insSr1 a c f w
  go_enter Tryz.func85, Tryz.ntmps85
  go_wp2
  go_loopw [7, 8] (fun x y wr => x = .int .i64 0 ∧ y = .int .i64 20 ∧ wr = w) (fun _ _ _ => 0)
  case atStart => exact ⟨rfl, rfl, rfl⟩
  case round =>
    obtain ⟨rfl, rfl, rfl⟩ := hrel
    go_wp2_with (go_at_call 96; refine hins.mono ?_; clear hins; rintro e w1 ⟨rfl, rfl⟩)
    go_loopw [6, 7, 8] (fun x _ _ wr => x = .int .i64 20 ∧ wr = w1) (fun _ _ _ _ => 0)
    case atStart => exact ⟨rfl, rfl⟩
    case round =>
      obtain ⟨rfl, rfl⟩ := hrel
      go_wp2
      go_end0
      exact ⟨rfl, rfl⟩
set_option maxRecDepth 100000 in
set_option maxHeartbeats 1000000 in
theorem sortStSr1 (a : Option Addr) (c : Nat) (f : Value) (w : World) :
    Calls Tryz.prog 72 #[.slice a 1 c, f] w fun e w' => e = .returned (.tuple #[]) ∧ w' = w := by
  have hins := stableSr1 a c f w
  go_enter Tryz.func72, Tryz.ntmps72
  go_wp2_with (go_at_call 85; refine hins.mono ?_; clear hins; rintro e w1 ⟨rfl, rfl⟩)
  go_end0
  exact ⟨rfl, rfl⟩

end Go.Proofs.YtjnjmpfldbkciaaGreat
