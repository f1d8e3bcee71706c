/- The document's span; Texts of one list; Removed, the program's and the document's. -/
import Derived.Test.YtfkahbgphoonaaaZa1
import Derived.Test.YtfkahbgphoonaaaXk
namespace Go.Proofs.Ytfkahbgphoonaaa
open Go.RowKit Go.Shelf Go.Maps Go.Sort

set_option maxRecDepth 100000 in
set_option maxHeartbeats 1000000 in
theorem refSpan0 (m : Int) (w : World) (hm : 1 ≤ m) : Calls Try.prog 17 #[.int .i64 0, .int .i64 m] w fun e w' => e = .returned (.int .i64 (3 * min m 36028797018963968)) ∧ w' = w := by
  by_cases h1 : 36028797018963968 < m
  · have e : min m 36028797018963968 = 36028797018963968 := by omega
    rw [e]
    go_enter Try.func17, Try.ntmps17
    go_wp2
    go_ret
    exact ⟨rfl, rfl⟩
  · have e : min m 36028797018963968 = m := by omega
    have hw : IntKind.i64.wrap (3 * m) = 3 * m := by rw [IntKind.wrap_i64]; omega
    rw [e]
    go_enter Try.func17, Try.ntmps17
    go_wp2
    go_ret
    exact ⟨rfl, rfl⟩
set_option maxRecDepth 100000 in
set_option maxHeartbeats 1000000 in
theorem refSpan1 (m : Int) (w : World) (hm : 1 ≤ m) : Calls Try.prog 17 #[.int .i64 1, .int .i64 m] w fun e w' => e = .returned (.int .i64 (9 * min m 36028797018963968)) ∧ w' = w := by
  by_cases h1 : 36028797018963968 < m
  · have e : min m 36028797018963968 = 36028797018963968 := by omega
    rw [e]
    go_enter Try.func17, Try.ntmps17
    go_wp2
    go_ret
    exact ⟨rfl, rfl⟩
  · have e : min m 36028797018963968 = m := by omega
    have hw : IntKind.i64.wrap (9 * m) = 9 * m := by rw [IntKind.wrap_i64]; omega
    rw [e]
    go_enter Try.func17, Try.ntmps17
    go_wp2
    go_ret
    exact ⟨rfl, rfl⟩

set_option maxRecDepth 100000 in
set_option maxHeartbeats 1000000 in
theorem texts_same (v u : Value) (ns : List ByteArray) (w : World) (h : StAt w v ns) (h' : StAt w u ns) : Calls Try.prog 7 #[v, u] w fun e w' => e = .returned (.bool true) ∧ Below w.heap.size w w' := by
  obtain ⟨a1, c1, rfl, -⟩ := id h
  obtain ⟨a2, c2, rfl, hb2, -⟩ := id h'
  have hln : (ns.length : Int) ≤ 9223372036854775807 := by have := hb2.2; unfold maxLen at this; omega
  have HV : Hid (∀ X, Below w.heap.size w X → StAt X (.slice a1 ns.length c1) ns) := fun X hX => RowAt.below h hX
  have HU : Hid (∀ X, Below w.heap.size w X → StAt X (.slice a2 ns.length c2) ns) := fun X hX => RowAt.below h' hX
  clear h h' hb2
  go_enter Try.func7, Try.ntmps7
  go_wp2
  go_loopg [5] ns.length (fun g i wr => ∃ (k : Nat), k ≤ ns.length ∧ g = ns.length - k ∧ i = .int .i64 k ∧ Hid (Below w.heap.size w wr))
  case atStart => exact ⟨0, Nat.zero_le _, rfl, rfl, Below.refl _ _⟩
  case round =>
    obtain ⟨k, hk, hgk, rfl, hbel⟩ := hrel
    have hsw := hbel.out.size
    have hbn := fun q => below_drewN (Below.refl wr.heap.size wr) q
    by_cases hlt : k < ns.length
    · obtain ⟨b0, o0, e0, hone⟩ := StAt.one (HV.out wr hbel.out) k hlt
      obtain ⟨b1, o1, e1, hone1⟩ := StAt.one (HU.out wr hbel.out) k hlt
      subst e0 e1
      have g0 := hone wr (Below.refl _ _)
      have g1 := hone1 wr (Below.refl _ _)
      generalize ns[k] = n at *
      have hkl : (k : Int) < (ns.length : Int) := by omega
      clear hone hone1
      go_wp2_with fail
      go_quiet (fail)
      go_wp2_with fail
      go_roundg (ns.length - (k + 1))
      case rel => exact ⟨k + 1, by omega, rfl, by go_num, hbel.out.trans ((hbn nq).mono hsw)⟩
      case measure => omega
    · have hkl : ¬ (k : Int) < (ns.length : Int) := by omega
      go_wp2_with fail
      go_ret
      exact ⟨rfl, hbel.out⟩

/-- The names of the blocks that go. -/
def remF (horizon : Int) (L : List Mt) : List ByteArray := (L.filter fun m => decide (cl m.hi ≤ cl horizon)).map (·.nm)
theorem remF_step (horizon : Int) (L : List Mt) (k : Nat) (hk : k < L.length) : remF horizon (L.take (k + 1)) = remF horizon (L.take k) ++ if cl L[k].hi ≤ cl horizon then [L[k].nm] else [] := by
  unfold remF
  rw [List.take_succ_eq_append_getElem hk, List.filter_append, List.map_append]
  by_cases h : cl L[k].hi ≤ cl horizon <;> simp [h]
theorem remF_le (horizon : Int) (L : List Mt) : (remF horizon L).length ≤ L.length := by
  unfold remF
  rw [List.length_map]
  exact List.length_filter_le _ _
theorem appSt : App Try.prog 26 9 1 := App.of (z := .string ByteArray.empty) (bytes := 16) Try.underlying26 (by kernel_rfl) rfl (by decide) (by decide)
theorem stC_snoc (l : List ByteArray) (n : ByteArray) : stC (l ++ [n]) = stC l ++ [.string n] := by simp [stC]

set_option maxRecDepth 100000 in
set_option maxHeartbeats 1000000 in
theorem removed_any (v : Value) (L : List Mt) (horizon : Int) (w : World) (h : MtAt w v L) (hl : L.length ≤ 1000) :
    Calls Try.prog 9 #[v, .int .i64 horizon] w fun e w' => ∃ a c, e = .returned (.slice a (remF horizon L).length c) ∧ w'.ownsRow w.heap.size 9 1 (.slice a (remF horizon L).length c) (remF horizon L).length (stC (remF horizon L)) ∧ Below w.heap.size w w' := by
  obtain ⟨a1, c1, rfl, -⟩ := id h
  have HL : Hid (MtAt w (.slice a1 L.length c1) L) := h
  have HH : Hid (∀ t W, Calls Try.prog 16 #[.int .i64 t] W fun e w' => e = .returned (.int .i64 (cl t)) ∧ w' = W) := fun t W => within_any t W
  clear h
  go_enter Try.func9, Try.ntmps9
  go_wp2
  go_loopg [5, 10] L.length (fun g vo i wr => ∃ (k : Nat) (a : Option Addr) (c : Nat), k ≤ L.length ∧ g = L.length - k ∧ i = .int .i64 k ∧ vo = .slice a (remF horizon (L.take k)).length c ∧ Hid (wr.ownsRow w.heap.size 9 1 (.slice a (remF horizon (L.take k)).length c) (remF horizon (L.take k)).length (stC (remF horizon (L.take k)))) ∧ Hid (Below w.heap.size w wr))
  case atStart => exact ⟨0, none, 0, Nat.zero_le _, rfl, rfl, rfl, World.ownsRow_nil _ _ _ _, Below.refl _ _⟩
  case round =>
    obtain ⟨k, a, c, hk, hgk, rfl, rfl, hrow, hbel⟩ := hrel
    have hsw := hbel.out.size
    by_cases hlt : k < L.length
    · obtain ⟨b0, o0, e0, hone⟩ := MtAt.one HL.out k hlt
      subst e0
      obtain ⟨g0, g1, g2, g3⟩ := hone wr hbel.out
      have HST : Hid (_ = _) := remF_step horizon L k hlt
      have hle := remF_le horizon (L.take k)
      rw [List.length_take] at hle
      generalize L[k] = m at *
      generalize remF horizon (L.take k) = ps at *
      obtain ⟨mn, m1, m2, m3⟩ := m
      dsimp only at g0 g1 g2 g3
      have hkl : (k : Int) < (L.length : Int) := by omega
      have HAL : Hid (∀ o1 o2, ((wr.alloc o1).alloc o2).ownsRow w.heap.size 9 1 (.slice a ps.length c) ps.length (stC ps)) := fun o1 o2 => World.ownsRow.alloc (World.ownsRow.alloc hrow.out o1) o2
      clear hone
      by_cases hc : cl m2 ≤ cl horizon
      · have HS2 : Hid (remF horizon (L.take (k + 1)) = ps ++ [mn]) := by show _ = _; rw [HST.out, if_pos hc]
        go_wp2_with (first
          | (go_at_call 16; refine (HH.out _ _).mono ?_; rintro e w1 ⟨rfl, e8⟩; have e8 := e8.symm; subst e8)
          | (at_builtin; refine wpList_append_row appSt _ rfl _ _ rfl w.heap.size _ ps.length (stC ps) rfl (HAL.out _ _) _ 1 [.string mn] rfl (RowAt.of_block (cs := #[.string mn]) (heap_alloc2_new wr _ _) rfl (by decide)) (by simp [Value.oneCell']) (by omega) (by simp; omega) ?_; intro a5 c5 w5 hr5 hg5 hw5))
        go_roundg (L.length - (k + 1))
        case rel =>
          have h8 : (remF horizon (L.take (k + 1))).length = ps.length + 1 := by rw [HS2.out]; simp
          refine ⟨k + 1, a5, c5, by omega, rfl, by go_num, by rw [h8], ?_, ?_⟩
          · show World.ownsRow _ _ _ _ _ _ _
            rw [h8, HS2.out, stC_snoc]
            exact hr5
          · exact ((hbel.out.alloc hsw _).alloc (by simp; omega) _).grown hg5 (by simp; omega) (fun i hi => (World.ownsRow.lt hrow.out i hi).1)
        case measure => omega
      · have HS2 : Hid (remF horizon (L.take (k + 1)) = ps) := by show _ = _; rw [HST.out, if_neg hc, List.append_nil]
        go_wp2_with (go_at_call 16; refine (HH.out _ _).mono ?_; rintro e w1 ⟨rfl, e8⟩; have e8 := e8.symm; subst e8)
        go_roundg (L.length - (k + 1))
        case rel =>
          refine ⟨k + 1, a, c, by omega, rfl, by go_num, by rw [HS2.out], ?_, hbel.out.alloc hsw _⟩
          show World.ownsRow _ _ _ _ _ _ _
          rw [HS2.out]
          exact World.ownsRow.alloc hrow.out _
        case measure => omega
    · have hkl : ¬ (k : Int) < (L.length : Int) := by omega
      have hke : L.take k = L := List.take_of_length_le (by omega)
      rw [hke] at hrow ⊢
      go_wp2_with fail
      go_ret
      exact ⟨a, c, rfl, hrow.out, hbel.out⟩

set_option maxRecDepth 100000 in
set_option maxHeartbeats 1000000 in
theorem refRemoved_any (v : Value) (L : List Mt) (horizon : Int) (w : World) (h : MtAt w v L) (hl : L.length ≤ 1000) :
    Calls Try.prog 10 #[v, .int .i64 horizon] w fun e w' => ∃ a c, e = .returned (.slice a (remF horizon L).length c) ∧ w'.ownsRow w.heap.size 9 1 (.slice a (remF horizon L).length c) (remF horizon L).length (stC (remF horizon L)) ∧ Below w.heap.size w w' := by
  obtain ⟨a1, c1, rfl, -⟩ := id h
  have HL : Hid (MtAt w (.slice a1 L.length c1) L) := h
  have HH : Hid (∀ t W, Calls Try.prog 20 #[.int .i64 t] W fun e w' => e = .returned (.int .i64 (cl t)) ∧ w' = W) := fun t W => refInside t W
  clear h
  go_enter Try.func10, Try.ntmps10
  go_wp2
  go_loopg [5, 6] L.length (fun g vo i wr => ∃ (k : Nat) (a : Option Addr) (c : Nat), k ≤ L.length ∧ g = L.length - k ∧ i = .int .i64 k ∧ vo = .slice a (remF horizon (L.take k)).length c ∧ Hid (wr.ownsRow w.heap.size 9 1 (.slice a (remF horizon (L.take k)).length c) (remF horizon (L.take k)).length (stC (remF horizon (L.take k)))) ∧ Hid (Below w.heap.size w wr))
  case atStart => exact ⟨0, none, 0, Nat.zero_le _, rfl, rfl, rfl, World.ownsRow_nil _ _ _ _, Below.refl _ _⟩
  case round =>
    obtain ⟨k, a, c, hk, hgk, rfl, rfl, hrow, hbel⟩ := hrel
    have hsw := hbel.out.size
    by_cases hlt : k < L.length
    · obtain ⟨b0, o0, e0, hone⟩ := MtAt.one HL.out k hlt
      subst e0
      obtain ⟨g0, g1, g2, g3⟩ := hone wr hbel.out
      have HST : Hid (_ = _) := remF_step horizon L k hlt
      have hle := remF_le horizon (L.take k)
      rw [List.length_take] at hle
      generalize L[k] = m at *
      generalize remF horizon (L.take k) = ps at *
      obtain ⟨mn, m1, m2, m3⟩ := m
      dsimp only at g0 g1 g2 g3
      have hkl : (k : Int) < (L.length : Int) := by omega
      have HAL : Hid (∀ o1, (wr.alloc o1).ownsRow w.heap.size 9 1 (.slice a ps.length c) ps.length (stC ps)) := fun o1 => World.ownsRow.alloc hrow.out o1
      clear hone
      by_cases hc : cl m2 ≤ cl horizon
      · have HS2 : Hid (remF horizon (L.take (k + 1)) = ps ++ [mn]) := by show _ = _; rw [HST.out, if_pos hc]
        go_wp2_with (first
          | (go_at_call 20; refine (HH.out _ _).mono ?_; rintro e w1 ⟨rfl, e8⟩; have e8 := e8.symm; subst e8)
          | (at_builtin; refine wpList_append_row appSt _ rfl _ _ rfl w.heap.size _ ps.length (stC ps) rfl (HAL.out _) _ 1 [.string mn] rfl (RowAt.of_block (cs := #[.string mn]) (heap_alloc_new wr _) rfl (by decide)) (by simp [Value.oneCell']) (by omega) (by simp; omega) ?_; intro a5 c5 w5 hr5 hg5 hw5))
        go_roundg (L.length - (k + 1))
        case rel =>
          have h8 : (remF horizon (L.take (k + 1))).length = ps.length + 1 := by rw [HS2.out]; simp
          refine ⟨k + 1, a5, c5, by omega, rfl, by go_num, by rw [h8], ?_, ?_⟩
          · show World.ownsRow _ _ _ _ _ _ _
            rw [h8, HS2.out, stC_snoc]
            exact hr5
          · exact (hbel.out.alloc hsw _).grown hg5 (by simp; omega) (fun i hi => (World.ownsRow.lt hrow.out i hi).1)
        case measure => omega
      · have HS2 : Hid (remF horizon (L.take (k + 1)) = ps) := by show _ = _; rw [HST.out, if_neg hc, List.append_nil]
        go_wp2_with (go_at_call 20; refine (HH.out _ _).mono ?_; rintro e w1 ⟨rfl, e8⟩; have e8 := e8.symm; subst e8)
        go_roundg (L.length - (k + 1))
        case rel =>
          refine ⟨k + 1, a, c, by omega, rfl, by go_num, by rw [HS2.out], ?_, hbel.out⟩
          show World.ownsRow _ _ _ _ _ _ _
          rw [HS2.out]
          exact hrow.out
        case measure => omega
    · have hkl : ¬ (k : Int) < (L.length : Int) := by omega
      have hke : L.take k = L := List.take_of_length_le (by omega)
      rw [hke] at hrow ⊢
      go_wp2_with fail
      go_ret
      exact ⟨a, c, rfl, hrow.out, hbel.out⟩

end Go.Proofs.Ytfkahbgphoonaaa
