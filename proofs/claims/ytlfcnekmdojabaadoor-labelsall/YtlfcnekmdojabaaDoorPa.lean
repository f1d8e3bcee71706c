/- For LabelsAll: Within; a clone. -/
import Derived.Test.YtlfcnekmdojabaaDoorRo
import Derived.Test.YtlfcnekmdojabaaDoorKp
import Derived.Test.YtlfcnekmdojabaaDoorLe
import Derived.Lib.LazyBuf
namespace Go.Proofs.YtlfcnekmdojabaaDoor
open Go.RowKit Go.Maps

theorem ret_int {a b : Int} (h : a = b) : Ending.returned (.int .i64 a) = .returned (.int .i64 b) := by rw [h]
theorem emod_of_tmod (n m : Int) : n % m = (n.tmod m) % m := by
  have h := Int.mul_tdiv_add_tmod n m
  conv => lhs; rw [← h, Int.add_comm]
  rw [Int.add_mul_emod_self_left]

set_option maxRecDepth 100000 in
set_option maxHeartbeats 1000000 in
theorem within_any (n m : Int) (w : World) (hm : 1 ≤ m) (hm' : m ≤ 1000000) (_hn : -9223372036854775808 ≤ n) (_hn' : n ≤ 9223372036854775807) :
    Calls Tryd.prog 6 #[.int .i64 n, .int .i64 m] w fun e w' => e = .returned (.int .i64 (n % m)) ∧ w' = w := by
  have hmz : m ≠ 0 := by omega
  have h1 : -m < Int.tmod n m := by
    have := Int.lt_tmod_of_pos n (show 0 < m by omega); omega
  have h2 : Int.tmod n m < m := Int.tmod_lt_of_pos n (by omega)
  by_cases h : Int.tmod n m < 0
  · go_enter Tryd.func6, Tryd.ntmps6
    go_wp2
    go_ret
    have e : n.tmod m + m = n % m := by
      have e2 := Int.add_mul_emod_self_left (n.tmod m) m 1
      rw [Int.mul_one] at e2
      rw [emod_of_tmod, ← e2]
      exact (Int.emod_eq_of_lt (by omega) (by omega)).symm
    exact ⟨ret_int e, rfl⟩
  · go_enter Tryd.func6, Tryd.ntmps6
    go_wp2
    go_ret
    have e : n.tmod m = n % m := by
      rw [emod_of_tmod]
      exact (Int.emod_eq_of_lt (by omega) (by omega)).symm
    exact ⟨ret_int e, rfl⟩

set_option maxRecDepth 100000 in
set_option maxHeartbeats 1000000 in
theorem clone_any (v : Value) (ls : List Lb) (w : World) (h : LabsAt w v ls) (hl : ls.length ≤ 900) :
    Calls Tryd.prog 11 #[v] w fun e w' => ∃ a c, e = .returned (.slice a ls.length c) ∧ LabsAt w' (.slice a ls.length c) ls ∧ Below w.heap.size w w' := by
  obtain ⟨a, c, rfl, hlc, -⟩ := id h
  have HL : Hid (∀ W, Below w.heap.size w W → LabsAt W (.slice a ls.length c) ls) := fun W hb => h.below hb
  have HA : Hid (Below w.heap.size w (w.alloc (.cells #[] 28))) := (Below.refl _ w).alloc (Nat.le_refl _) _
  have HE : Hid ((w.alloc (.cells #[] 28)).ownsRow w.heap.size 28 2 (.slice (some ⟨w.heap.size, 0, none⟩) 0 0) 0 []) := row_empty w _ (Nat.le_refl _)
  have HX : Hid (∀ w1, (w.alloc (.cells #[] 28)).grownBy w1 (Value.slice (some ⟨w.heap.size, 0, none⟩) 0 0).ownBlock → Below w.heap.size w w1) := fun w1 hg1 => HA.out.grown hg1 (by simp) (fun k hk => by simp [Value.ownBlock] at hk; omega)
  have qe : ∀ (w : World) (a : Option Addr) (n c n' c' : Nat), (binOp .eql 22 (.slice a n c) (.slice none n' c')).run Tryd.prog w = .ok (.bool a.isNone) w := fun w a n c n' c' => Lib.run_eql_slice_nil w _ _ a n c n' c' Tryd.underlying22
  clear h
  cases a with
  | none =>
    have hn0 : ls = [] := by
      cases ls with
      | nil => rfl
      | cons x t =>
        obtain ⟨b, o, e, -⟩ := (HL.out w (Below.refl _ _)).one 0 (by simp)
        cases e
    subst hn0
    go_enter Tryd.func11, Tryd.ntmps11
    go_wp2
    go_ret
    exact ⟨none, 0, rfl, LabsAt.nil (Nat.zero_le _), Below.refl _ _⟩
  | some ad =>
    go_enter Tryd.func11, Tryd.ntmps11
    go_wp2_with (at_builtin; refine wpList_append_labs _ rfl _ _ rfl w.heap.size (.slice (some ⟨w.heap.size, 0, none⟩) 0 0) 0 [] rfl HE.out _ ls rfl (HL.out _ HA.out) (by omega) (by simp) ?_; intro v1 w1 hr1 hg1 _; have hb1 := HX.out _ hg1; rw [Nat.zero_add, List.nil_append] at hr1; obtain ⟨a1, c1, rfl⟩ := slice_of_row hr1)
    go_ret
    exact ⟨a1, c1, rfl, LabsAt.of_row hr1, hb1⟩

set_option maxRecDepth 100000 in
set_option maxHeartbeats 1000000 in
/-- All hands back the closure of each, over a block that holds a clone. -/
theorem all_any (v : Value) (ls : List Lb) (w : World) (h : LabsAt w v ls) (hl : ls.length ≤ 900) :
    Calls Tryd.prog 5 #[v] w fun e w' => ∃ (B : Nat) (a : Option Addr) (c : Nat), e = .returned (.func (.func 18) #[] #[.pointer (some ⟨B, 0, none⟩)]) ∧ w'.cell? ⟨B, 0, none⟩ = some (.slice a ls.length c) ∧ LabsAt w' (.slice a ls.length c) ls ∧ B < w'.heap.size ∧ Below w.heap.size w w' := by
  have hcl := clone_any v ls w h hl
  obtain ⟨a, c, rfl, -, -⟩ := id h
  clear h
  have heach : ∀ a1 c1 W, Calls Tryd.prog 10 #[.slice a1 ls.length c1] W fun e w' => e = .returned (.func (.func 18) #[] #[.pointer (some ⟨W.heap.size, 0, none⟩)]) ∧ w' = W.alloc (.cells #[.slice a1 ls.length c1] 22) := fun a1 c1 W => (callsIn_wide (n := 9)).1 (each_in Fence.wide 9 trivial rfl a1 ls.length c1 W)
  have HEA : Hid _ := heach
  clear heach
  go_enter Tryd.func5, Tryd.ntmps5
  go_wp2_with (first
    | (go_at_call 11; refine hcl.mono ?_; clear hcl; rintro e w1 ⟨a1, c1, rfl, hl1, hb1⟩)
    | (go_at_call 10; refine (HEA.out _ _ _).mono ?_; clear HEA; rintro e w2 ⟨rfl, rfl⟩))
  go_ret
  have hb2 : Below w1.heap.size w1 (w1.alloc (.cells #[.slice a1 ls.length c1] 22)) := (Below.refl _ _).alloc (Nat.le_refl _) _
  exact ⟨w1.heap.size, a1, c1, rfl, World.news_of_block (heap_alloc_new w1 _) 0 _ rfl, hl1.below hb2, by simp, hb1.trans (hb2.mono hb1.size)⟩

end Go.Proofs.YtlfcnekmdojabaaDoor
