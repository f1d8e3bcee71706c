/- slices.Clone of labels, samples, series; copied. -/
import Derived.Test.YtjnjmpfldbkciaaGreatYb
import Derived.Lib.LazyBuf
namespace Go.Proofs.YtjnjmpfldbkciaaGreat
open Go.RowKit Go.Maps

theorem appLb : App Tryz.prog 33 53 2 := App.of (z := .agg #[.string ByteArray.empty, .string ByteArray.empty]) (bytes := 32) Tryz.underlying33 (by kernel_rfl) rfl (by decide) (by decide)
theorem appSm : App Tryz.prog 34 42 2 := App.of (z := .agg #[.int .i64 0, .float .f64 0]) (bytes := 16) Tryz.underlying34 (by kernel_rfl) rfl (by decide) (by decide)
theorem appSr : App Tryz.prog 22 36 2 := App.of (z := .agg #[.slice none 0 0, .slice none 0 0]) (bytes := 48) Tryz.underlying22 (by kernel_rfl) rfl (by decide) (by decide)

set_option maxRecDepth 100000 in
set_option maxHeartbeats 1000000 in
theorem cloneLb (v : Value) (n : Nat) (cs : List Value) (w : World) (h : RowAt w v 2 n cs) (h1 : ∀ u ∈ cs, u.oneCell' = true) (hl : n ≤ 900000) :
    Calls Tryz.prog 26 #[v] w fun e w' => ∃ a c, e = .returned (.slice a n c) ∧ w'.ownsRow w.heap.size 53 2 (.slice a n c) n cs ∧ Below w.heap.size w w' := by
  obtain ⟨a, c, rfl, hlc, hcl, hcc⟩ := id h
  have HL : Hid (∀ W, Below w.heap.size w W → RowAt W (.slice a n c) 2 n cs) := fun W hb => h.below hb
  have HA : Hid (Below w.heap.size w (w.alloc (.cells #[] 53))) := (Below.refl _ w).alloc (Nat.le_refl _) _
  have HE : Hid ((w.alloc (.cells #[] 53)).ownsRow w.heap.size 53 2 (.slice (some ⟨w.heap.size, 0, none⟩) 0 0) 0 []) := row_empty w _ _ (Nat.le_refl _)
  have HX : Hid (∀ w1, (w.alloc (.cells #[] 53)).grownBy w1 (Value.slice (some ⟨w.heap.size, 0, none⟩) 0 0).ownBlock → Below w.heap.size w w1) := fun w1 hg1 => HA.out.grown hg1 (by simp) (fun k hk => by simp [Value.ownBlock] at hk; omega)
  have H1 : Hid (∀ u ∈ cs, u.oneCell' = true) := h1
  have qe : ∀ (w : World) (a : Option Addr) (n c n' c' : Nat), (binOp .eql 33 (.slice a n c) (.slice none n' c')).run Tryz.prog w = .ok (.bool a.isNone) w := fun w a n c n' c' => Lib.run_eql_slice_nil w _ _ a n c n' c' Tryz.underlying33
  cases a with
  | none =>
    have hn0 : cs = [] := by
      cases cs with
      | nil => rfl
      | cons x t =>
        obtain ⟨b, o, e, -⟩ := hcc 0 x rfl
        cases e
    subst hn0
    have hn1 : n = 0 := by simp at hcl; omega
    subst hn1
    clear h h1 hcc hcl
    go_enter Tryz.func26, Tryz.ntmps26
    go_wp2
    go_ret
    exact ⟨none, 0, rfl, ⟨rfl, Or.inl ⟨rfl, rfl⟩⟩, Below.refl _ _⟩
  | some ad =>
    clear h h1 hcc
    go_enter Tryz.func26, Tryz.ntmps26
    go_wp2_with (at_builtin; refine wpList_append_row appLb _ rfl _ _ rfl w.heap.size (.slice (some ⟨w.heap.size, 0, none⟩) 0 0) 0 [] rfl HE.out _ n cs rfl (HL.out _ HA.out) H1.out (by omega) (by simp) ?_; intro a1 c1 w1 hr1 hg1 _; have hb1 := HX.out _ hg1; rw [Nat.zero_add, List.nil_append] at hr1; rw [Nat.zero_add])
    go_ret
    exact ⟨a1, c1, rfl, hr1, hb1⟩

set_option maxRecDepth 100000 in
set_option maxHeartbeats 1000000 in
theorem cloneSm (v : Value) (n : Nat) (cs : List Value) (w : World) (h : RowAt w v 2 n cs) (h1 : ∀ u ∈ cs, u.oneCell' = true) (hl : n ≤ 900000) :
    Calls Tryz.prog 76 #[v] w fun e w' => ∃ a c, e = .returned (.slice a n c) ∧ w'.ownsRow w.heap.size 42 2 (.slice a n c) n cs ∧ Below w.heap.size w w' := by
  obtain ⟨a, c, rfl, hlc, hcl, hcc⟩ := id h
  have HL : Hid (∀ W, Below w.heap.size w W → RowAt W (.slice a n c) 2 n cs) := fun W hb => h.below hb
  have HA : Hid (Below w.heap.size w (w.alloc (.cells #[] 42))) := (Below.refl _ w).alloc (Nat.le_refl _) _
  have HE : Hid ((w.alloc (.cells #[] 42)).ownsRow w.heap.size 42 2 (.slice (some ⟨w.heap.size, 0, none⟩) 0 0) 0 []) := row_empty w _ _ (Nat.le_refl _)
  have HX : Hid (∀ w1, (w.alloc (.cells #[] 42)).grownBy w1 (Value.slice (some ⟨w.heap.size, 0, none⟩) 0 0).ownBlock → Below w.heap.size w w1) := fun w1 hg1 => HA.out.grown hg1 (by simp) (fun k hk => by simp [Value.ownBlock] at hk; omega)
  have H1 : Hid (∀ u ∈ cs, u.oneCell' = true) := h1
  have qe : ∀ (w : World) (a : Option Addr) (n c n' c' : Nat), (binOp .eql 34 (.slice a n c) (.slice none n' c')).run Tryz.prog w = .ok (.bool a.isNone) w := fun w a n c n' c' => Lib.run_eql_slice_nil w _ _ a n c n' c' Tryz.underlying34
  cases a with
  | none =>
    have hn0 : cs = [] := by
      cases cs with
      | nil => rfl
      | cons x t =>
        obtain ⟨b, o, e, -⟩ := hcc 0 x rfl
        cases e
    subst hn0
    have hn1 : n = 0 := by simp at hcl; omega
    subst hn1
    clear h h1 hcc hcl
    go_enter Tryz.func76, Tryz.ntmps76
    go_wp2
    go_ret
    exact ⟨none, 0, rfl, ⟨rfl, Or.inl ⟨rfl, rfl⟩⟩, Below.refl _ _⟩
  | some ad =>
    clear h h1 hcc
    go_enter Tryz.func76, Tryz.ntmps76
    go_wp2_with (at_builtin; refine wpList_append_row appSm _ rfl _ _ rfl w.heap.size (.slice (some ⟨w.heap.size, 0, none⟩) 0 0) 0 [] rfl HE.out _ n cs rfl (HL.out _ HA.out) H1.out (by omega) (by simp) ?_; intro a1 c1 w1 hr1 hg1 _; have hb1 := HX.out _ hg1; rw [Nat.zero_add, List.nil_append] at hr1; rw [Nat.zero_add])
    go_ret
    exact ⟨a1, c1, rfl, hr1, hb1⟩

set_option maxRecDepth 100000 in
set_option maxHeartbeats 1000000 in
theorem cloneSr (v : Value) (n : Nat) (cs : List Value) (w : World) (h : RowAt w v 2 n cs) (h1 : ∀ u ∈ cs, u.oneCell' = true) (hl : n ≤ 900000) :
    Calls Tryz.prog 71 #[v] w fun e w' => ∃ a c, e = .returned (.slice a n c) ∧ w'.ownsRow w.heap.size 36 2 (.slice a n c) n cs ∧ Below w.heap.size w w' := by
  obtain ⟨a, c, rfl, hlc, hcl, hcc⟩ := id h
  have HL : Hid (∀ W, Below w.heap.size w W → RowAt W (.slice a n c) 2 n cs) := fun W hb => h.below hb
  have HA : Hid (Below w.heap.size w (w.alloc (.cells #[] 36))) := (Below.refl _ w).alloc (Nat.le_refl _) _
  have HE : Hid ((w.alloc (.cells #[] 36)).ownsRow w.heap.size 36 2 (.slice (some ⟨w.heap.size, 0, none⟩) 0 0) 0 []) := row_empty w _ _ (Nat.le_refl _)
  have HX : Hid (∀ w1, (w.alloc (.cells #[] 36)).grownBy w1 (Value.slice (some ⟨w.heap.size, 0, none⟩) 0 0).ownBlock → Below w.heap.size w w1) := fun w1 hg1 => HA.out.grown hg1 (by simp) (fun k hk => by simp [Value.ownBlock] at hk; omega)
  have H1 : Hid (∀ u ∈ cs, u.oneCell' = true) := h1
  have qe : ∀ (w : World) (a : Option Addr) (n c n' c' : Nat), (binOp .eql 22 (.slice a n c) (.slice none n' c')).run Tryz.prog w = .ok (.bool a.isNone) w := fun w a n c n' c' => Lib.run_eql_slice_nil w _ _ a n c n' c' Tryz.underlying22
  cases a with
  | none =>
    have hn0 : cs = [] := by
      cases cs with
      | nil => rfl
      | cons x t =>
        obtain ⟨b, o, e, -⟩ := hcc 0 x rfl
        cases e
    subst hn0
    have hn1 : n = 0 := by simp at hcl; omega
    subst hn1
    clear h h1 hcc hcl
    go_enter Tryz.func71, Tryz.ntmps71
    go_wp2
    go_ret
    exact ⟨none, 0, rfl, ⟨rfl, Or.inl ⟨rfl, rfl⟩⟩, Below.refl _ _⟩
  | some ad =>
    clear h h1 hcc
    go_enter Tryz.func71, Tryz.ntmps71
    go_wp2_with (at_builtin; refine wpList_append_row appSr _ rfl _ _ rfl w.heap.size (.slice (some ⟨w.heap.size, 0, none⟩) 0 0) 0 [] rfl HE.out _ n cs rfl (HL.out _ HA.out) H1.out (by omega) (by simp) ?_; intro a1 c1 w1 hr1 hg1 _; have hb1 := HX.out _ hg1; rw [Nat.zero_add, List.nil_append] at hr1; rw [Nat.zero_add])
    go_ret
    exact ⟨a1, c1, rfl, hr1, hb1⟩

end Go.Proofs.YtjnjmpfldbkciaaGreat
