/- Span, the program's and the document's. -/
import Derived.Test.YtjnjmpfldbkciaaGreatC3
import Derived.Deep.RegionHeld3
namespace Go.Proofs.YtjnjmpfldbkciaaGreat
open Go.RowKit Go.Maps

def spS (s : Int × Int × Bool) (t : Int) : Int × Int × Bool := if s.2.2 then (min s.1 t, max s.2.1 t, true) else (t, t, true)
def spG (s : Int × Int × Bool) (ss : List Sm) : Int × Int × Bool := ss.foldl (fun s x => spS s x.1) s
def spF (l : List Sr) : Int × Int × Bool := l.foldl (fun s x => spG s x.ss) (0, 0, false)
theorem spG_take (s : Int × Int × Bool) (ss : List Sm) (j : Nat) (hj : j < ss.length) : spG s (ss.take (j + 1)) = spS (spG s (ss.take j)) ss[j].1 := by
  unfold spG
  rw [List.take_succ_eq_append_getElem hj, List.foldl_append]
  rfl
theorem spF_take (l : List Sr) (k : Nat) (hk : k < l.length) : spF (l.take (k + 1)) = spG (spF (l.take k)) l[k].ss := by
  unfold spF
  rw [List.take_succ_eq_append_getElem hk, List.foldl_append]
  rfl
theorem spF_pure {l m : List Sr} (h : l.map Sr.p = m.map Sr.p) : spF l = spF m := by
  have : ∀ (l : List Sr) (s : Int × Int × Bool), l.foldl (fun s x => spG s x.ss) s = (l.map Sr.p).foldl (fun s x => spG s x.2) s := fun l => by
    induction l with
    | nil => intro s; rfl
    | cons x r ih => intro s; exact ih _
  unfold spF
  rw [this, this, h]
theorem run_store_fl {P : Program} {w : World} {a : Addr} {m : Mode} (k : FloatKind) (x : Nat) : (store a (.float k x) m).run P w = stored P w a (.float k x) m := run_store P w a _ m rfl
attribute [local go_sem] run_store_fl
theorem rsl3 {a b c a' b' c' : Value} (h1 : a = a') (h2 : b = b') (h3 : c = c') : Ending.returned (.tuple #[a, b, c]) = .returned (.tuple #[a', b', c']) := by rw [h1, h2, h3]

set_option maxRecDepth 100000 in
set_option maxHeartbeats 4000000 in
theorem refSpan_any (v : Value) (l : List Sr) (w : World) (h : SrAt w v l) (hl : l.length ≤ 1000) :
    Calls Tryz.prog 13 #[v] w fun e w' => e = .returned (.tuple #[.int .i64 (spF l).1, .int .i64 (spF l).2.1, .bool (spF l).2.2]) ∧ Below w.heap.size w w' := by
  obtain ⟨a, c, rfl, -⟩ := id h.1
  have HC : Hid (SrAt w (.slice a l.length c) l) := h
  clear h
  go_enter Tryz.func13, Tryz.ntmps13
  go_wp2
  go_loopw [5, 6, 7, 8] (fun x y z i wr => ∃ (k : Nat) (A B : Int) (C : Bool), k ≤ l.length ∧ i = .int .i64 k ∧ x = .int .i64 A ∧ y = .int .i64 B ∧ z = .bool C ∧ Hid (spF (l.take k) = (A, B, C)) ∧ Hid (Below w.heap.size w wr)) (fun _ _ _ i _ => l.length - (intOf i).toNat)
  case atStart => exact ⟨0, 0, 0, false, Nat.zero_le _, rfl, rfl, rfl, rfl, rfl, Below.refl _ _⟩
  case round =>
    obtain ⟨k, A, B, C, hk, rfl, rfl, rfl, rfl, hS, hb⟩ := hrel
    by_cases hlt : k < l.length
    · obtain ⟨b, o, rfl, hone⟩ := HC.out.one k hlt
      have s1 := HC.out.2 l[k] (List.getElem_mem hlt)
      have HN : Hid (spF (l.take (k + 1)) = spG (A, B, C) l[k].ss) := by show _ = _; rw [spF_take l k hlt, hS.out]
      generalize l[k] = X at *
      obtain ⟨xl, xls, xs, xss⟩ := X
      obtain ⟨xa, xc, hxa, -⟩ := id s1.smp
      dsimp only at hxa hone HN
      subst hxa
      have H1 : Hid (SmAt w (.slice xa xss.length xc) xss) := s1.smp
      have HF : Hid (xss.length ≤ 40) := s1.fews
      have HO : Hid (∀ W, Below w.heap.size w W → W.cell? ⟨b, o + k * 2 + 1, none⟩ = some (.slice xa xss.length xc)) := fun W hW => (hone W hW).2
      have hf40 := HF.out
      clear hone s1 hS
      go_wp2
      go_loopw [5, 6, 7, 9, 10] (fun x y z i _ wr => ∃ (j : Nat) (A' B' : Int) (C' : Bool), j ≤ xss.length ∧ i = .int .i64 j ∧ x = .int .i64 A' ∧ y = .int .i64 B' ∧ z = .bool C' ∧ Hid (spG (A, B, C) (xss.take j) = (A', B', C')) ∧ Hid (Below w.heap.size w wr)) (fun _ _ _ i _ _ => xss.length - (intOf i).toNat)
      case atStart => exact ⟨0, A, B, C, Nat.zero_le _, rfl, rfl, rfl, rfl, rfl, hb⟩
      case round =>
        obtain ⟨j, A', B', C', hj, rfl, rfl, rfl, rfl, hS, hb⟩ := hrel
        have q0 := HO.out wr hb.out
        have hkl : (k : Int) < (l.length : Int) := by omega
        by_cases hjl : j < xss.length
        · obtain ⟨b2, o2, rfl, hone2⟩ := H1.out.one j hjl
          obtain ⟨g0, g1⟩ := hone2 wr hb.out
          have HS2 : Hid (spG (A, B, C) (xss.take (j + 1)) = spS (A', B', C') xss[j].1) := by show _ = _; rw [spG_take _ _ j hjl, hS.out]
          generalize xss[j].1 = t at *
          have hjl2 : (j : Int) < (xss.length : Int) := by omega
          clear hone2 hS HN HC
          cases C'
          · have HS3 : Hid (spG (A, B, C) (xss.take (j + 1)) = (t, t, true)) := by show _ = _; rw [HS2.out]; rfl
            clear HS2
            go_wp2
            go_roundw
            case rel => exact ⟨j + 1, t, t, true, by omega, by go_num, rfl, rfl, rfl, HS3, hb⟩
            case measure => simp [intOf]; omega
          · have HS3 : Hid (spG (A, B, C) (xss.take (j + 1)) = (min A' t, max B' t, true)) := by show _ = _; rw [HS2.out]; rfl
            clear HS2
            go_wp2
            all_goals
              go_roundw
              case rel =>
                refine ⟨j + 1, _, _, true, by omega, by go_num, rfl, rfl, rfl, ?_, hb⟩
                show _ = _
                rw [HS3.out]
                simp only [Prod.mk.injEq, and_true]
                constructor <;> omega
              case measure => simp [intOf]; omega
        · have e : xss.take j = xss := List.take_of_length_le (by omega)
          have HS3 : Hid (spF (l.take (k + 1)) = (A', B', C')) := by show _ = _; rw [HN.out, ← hS.out, e]
          clear e hS HN
          go_wp2
          go_roundw
          case rel => exact ⟨k + 1, A', B', C', by omega, by go_num, rfl, rfl, rfl, HS3, hb⟩
          case measure => simp [intOf]; omega
    · have e : l.take k = l := List.take_of_length_le (by omega)
      have HS3 : Hid (spF l = (A, B, C)) := by show _ = _; rw [← hS.out, e]
      clear e hS HC
      go_wp2
      go_ret3
      exact ⟨by rw [HS3.out]; rfl, hb.out⟩

set_option maxRecDepth 100000 in
set_option maxHeartbeats 4000000 in
theorem span_any (v : Value) (l : List Sr) (w : World) (h : SrAt w v l) (hl : l.length ≤ 1000) :
    Calls Tryz.prog 12 #[v] w fun e w' => e = .returned (.tuple #[.int .i64 (spF l).1, .int .i64 (spF l).2.1, .bool (spF l).2.2]) ∧ Below w.heap.size w w' := by
  obtain ⟨a, c, rfl, -⟩ := id h.1
  have HC : Hid (SrAt w (.slice a l.length c) l) := h
  clear h
  go_enter Tryz.func12, Tryz.ntmps12
  go_wp2
  go_loopw [2, 3, 4, 11] (fun x y z i wr => ∃ (k : Nat) (A B : Int) (C : Bool), k ≤ l.length ∧ i = .int .i64 k ∧ x = .int .i64 A ∧ y = .int .i64 B ∧ z = .bool C ∧ Hid (spF (l.take k) = (A, B, C)) ∧ Hid (Below w.heap.size w wr)) (fun _ _ _ i _ => l.length - (intOf i).toNat)
  case atStart => exact ⟨0, 0, 0, false, Nat.zero_le _, rfl, rfl, rfl, rfl, rfl, Below.refl _ _⟩
  case round =>
    obtain ⟨k, A, B, C, hk, rfl, rfl, rfl, rfl, hS, hb⟩ := hrel
    by_cases hlt : k < l.length
    · obtain ⟨b, o, rfl, hone⟩ := HC.out.one k hlt
      have s1 := HC.out.2 l[k] (List.getElem_mem hlt)
      have HN : Hid (spF (l.take (k + 1)) = spG (A, B, C) l[k].ss) := by show _ = _; rw [spF_take l k hlt, hS.out]
      generalize l[k] = X at *
      obtain ⟨xl, xls, xs, xss⟩ := X
      obtain ⟨xa, xc, hxa, -⟩ := id s1.smp
      obtain ⟨ya, yc, hya, -⟩ := id s1.lab
      dsimp only at hxa hya hone HN
      subst hxa hya
      have H1 : Hid (SmAt w (.slice xa xss.length xc) xss) := s1.smp
      have HF : Hid (xss.length ≤ 40) := s1.fews
      have hf40 := HF.out
      obtain ⟨q0, q1⟩ := hone wr hb.out
      have HBA : Hid (Below w.heap.size w (wr.alloc (.cells #[.slice ya xls.length yc, .slice xa xss.length xc] 36))) := hb.out.alloc hb.out.size _
      have hkl : (k : Int) < (l.length : Int) := by omega
      clear hone s1 hS hb
      go_wp2
      go_loopw [2, 3, 4, 8, 18] (fun x y z _ i wr => ∃ (j : Nat) (A' B' : Int) (C' : Bool), j ≤ xss.length ∧ i = .int .i64 j ∧ x = .int .i64 A' ∧ y = .int .i64 B' ∧ z = .bool C' ∧ Hid (spG (A, B, C) (xss.take j) = (A', B', C')) ∧ Hid (Below w.heap.size w wr)) (fun _ _ _ _ i _ => xss.length - (intOf i).toNat)
      case atStart => exact ⟨0, A, B, C, Nat.zero_le _, rfl, rfl, rfl, rfl, rfl, HBA⟩
      case round =>
        obtain ⟨j, A', B', C', hj, rfl, rfl, rfl, rfl, hS, hb⟩ := hrel
        by_cases hjl : j < xss.length
        · obtain ⟨b2, o2, rfl, hone2⟩ := H1.out.one j hjl
          obtain ⟨g0, g1⟩ := hone2 wr hb.out
          have HS2 : Hid (spG (A, B, C) (xss.take (j + 1)) = spS (A', B', C') xss[j].1) := by show _ = _; rw [spG_take _ _ j hjl, hS.out]
          generalize xss[j].1 = t at *
          generalize xss[j].2 = fl at *
          have hjl2 : (j : Int) < (xss.length : Int) := by omega
          have HB3 : Hid (∀ q, Below w.heap.size w ((wr.alloc (.cells #[.int .i64 t, .float .f64 fl] 42)).drewN q)) := fun q => below_drewN (hb.out.alloc hb.out.size _) q
          have hx := heap_alloc_new wr (.cells #[.int .i64 t, .float .f64 fl] 42)
          have hx0 := cell_of_heap (i := 0) hx
          clear hone2 hS HN HC hx
          cases C'
          · have HS3 : Hid (spG (A, B, C) (xss.take (j + 1)) = (t, t, true)) := by show _ = _; rw [HS2.out]; rfl
            clear HS2
            go_wp2
            go_quiet (fail)
            go_wp2
            go_quiet (fail)
            go_wp2
            go_roundw
            case rel => exact ⟨j + 1, t, t, true, by omega, by go_num, by simp, by simp, rfl, HS3, HB3.out _⟩
            case measure => simp [intOf]; omega
          · have HS3 : Hid (spG (A, B, C) (xss.take (j + 1)) = (min A' t, max B' t, true)) := by show _ = _; rw [HS2.out]; rfl
            clear HS2
            go_wp2
            go_quiet (fail)
            go_wp2
            go_roundw
            case rel => exact ⟨j + 1, _, _, true, by omega, by go_num, rfl, rfl, rfl, HS3, HB3.out _⟩
            case measure => simp [intOf]; omega
        · have e : xss.take j = xss := List.take_of_length_le (by omega)
          have HS3 : Hid (spF (l.take (k + 1)) = (A', B', C')) := by show _ = _; rw [HN.out, ← hS.out, e]
          clear e hS HN
          go_wp2
          go_roundw
          case rel => exact ⟨k + 1, A', B', C', by omega, by go_num, rfl, rfl, rfl, HS3, hb⟩
          case measure => simp [intOf]; omega
    · have e : l.take k = l := List.take_of_length_le (by omega)
      have HS3 : Hid (spF l = (A, B, C)) := by show _ = _; rw [← hS.out, e]
      clear e hS HC
      go_wp2
      go_ret3
      exact ⟨by rw [HS3.out]; rfl, hb.out⟩

end Go.Proofs.YtjnjmpfldbkciaaGreat
