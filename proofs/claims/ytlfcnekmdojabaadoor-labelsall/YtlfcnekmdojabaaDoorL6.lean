/- A set is asked: the document's Has and Get, the program's Get. -/
import Derived.Test.YtlfcnekmdojabaaDoorL4
namespace Go.Proofs.YtlfcnekmdojabaaDoor
open Go.RowKit

def hasL (ls : List Lb) (n : ByteArray) : Bool := ls.any fun x => x.1.toList == n.toList
def getL (ls : List Lb) (n : ByteArray) : ByteArray := ((ls.find? fun x => x.1.toList == n.toList).map (·.2)).getD ⟨#[]⟩
def Not (ls : List Lb) (n : ByteArray) (k : Nat) : Prop := ∀ i (h : i < ls.length), i < k → (ls[i].1.toList == n.toList) = false
theorem Not.zero {ls : List Lb} {n : ByteArray} : Not ls n 0 := fun _ _ h => absurd h (Nat.not_lt_zero _)
theorem Not.succ {ls : List Lb} {n : ByteArray} {k : Nat} (h : Not ls n k) (hk : k < ls.length) (hc : (ls[k].1.toList == n.toList) = false) : Not ls n (k + 1) := fun i hi hlt => by
  rcases Nat.lt_succ_iff_lt_or_eq.1 hlt with h1 | h1
  · exact h i hi h1
  · subst h1; exact hc
theorem Not.find {ls : List Lb} {n : ByteArray} {k : Nat} (h : Not ls n k) (hk : k < ls.length) (hc : (ls[k].1.toList == n.toList) = true) : ls.find? (fun x => x.1.toList == n.toList) = some ls[k] := by
  rw [List.find?_eq_some_iff_getElem]
  refine ⟨hc, k, hk, rfl, fun j hj => ?_⟩
  simp only [Bool.not_eq_true', h j (by omega) hj]
theorem Not.none {ls : List Lb} {n : ByteArray} (h : Not ls n ls.length) : ls.find? (fun x => x.1.toList == n.toList) = none := by
  rw [List.find?_eq_none]
  intro x hx
  obtain ⟨i, hi, rfl⟩ := List.getElem_of_mem hx
  simp [h i hi hi]
theorem hasL_find (ls : List Lb) (n : ByteArray) : hasL ls n = (ls.find? fun x => x.1.toList == n.toList).isSome := by
  unfold hasL
  rw [List.isSome_find?]
theorem getL_find (ls : List Lb) (n : ByteArray) : getL ls n = ((ls.find? fun x => x.1.toList == n.toList).map (·.2)).getD ⟨#[]⟩ := rfl
theorem ret_str {a b : ByteArray} (h : a = b) : Ending.returned (.string a) = .returned (.string b) := by rw [h]

/-- One label of a list, in a world that came of the list's. -/
theorem LabsAt.one {w : World} {a : Option Addr} {c : Nat} {ls : List Lb} (h : LabsAt w (.slice a ls.length c) ls) (k : Nat) (hk : k < ls.length) : ∃ b o, a = some ⟨b, o, none⟩ ∧ ∀ w', Below w.heap.size w w' → w'.cell? ⟨b, o + k * 2, none⟩ = some (.string ls[k].1) ∧ w'.cell? ⟨b, o + k * 2 + 1, none⟩ = some (.string ls[k].2) := by
  obtain ⟨a', c', e, -, hc⟩ := h
  cases e
  obtain ⟨b, o, rfl, hb, h1, h2⟩ := hc k hk
  exact ⟨b, o, rfl, fun w' hb' => ⟨(hb'.cell (p := ⟨b, o + k * 2, none⟩) hb).trans h1, (hb'.cell (p := ⟨b, o + k * 2 + 1, none⟩) hb).trans h2⟩⟩

set_option maxRecDepth 100000 in
set_option maxHeartbeats 1000000 in
theorem refHas_any (v : Value) (ls : List Lb) (n : ByteArray) (w : World) (h : LabsAt w v ls) (hl : ls.length ≤ 1000000) :
    Calls Tryd.prog 16 #[v, .string n] w fun e w' => e = .returned (.bool (hasL ls n)) ∧ w' = w := by
  obtain ⟨a, c, rfl, -⟩ := id h
  have HC : Hid (LabsAt w (.slice a ls.length c) ls) := h
  clear h
  go_enter Tryd.func16, Tryd.ntmps16
  go_wp2
  go_loop [5] (fun i => ∃ k : Nat, k ≤ ls.length ∧ i = .int .i64 k ∧ Hid (Not ls n k)) (fun i => ls.length - (intOf i).toNat)
  case atStart => exact ⟨0, Nat.zero_le _, rfl, Not.zero⟩
  case round =>
    obtain ⟨k, hk, rfl, hall⟩ := hrel
    by_cases hlt : k < ls.length
    · obtain ⟨b, o, rfl, hone⟩ := HC.out.one k hlt
      obtain ⟨h0, -⟩ := hone w (Below.refl _ _)
      clear hone HC
      obtain ⟨x, hx⟩ : ∃ x, x = ls[k].1 := ⟨_, rfl⟩
      rw [← hx] at h0
      have HX : Hid (x = ls[k].1) := hx
      clear hx
      cases hxn : x.toList == n.toList
      · have HN : Hid (Not ls n (k + 1)) := hall.out.succ hlt (by rw [← HX.out]; exact hxn)
        clear hall HX
        go_wp2
        go_round
        case rel => exact ⟨k + 1, by omega, by go_num, HN⟩
        case measure => simp [intOf]; omega
      · have HN : Hid (hasL ls n = true) := by
          show _ = _
          rw [hasL_find, hall.out.find hlt (by rw [← HX.out]; exact hxn)]
          rfl
        clear hall HX
        go_wp2
        go_ret
        exact ⟨ret_bool HN.out.symm, rfl⟩
    · have HN : Hid (hasL ls n = false) := by
        have e : k = ls.length := by omega
        subst e
        show _ = _
        rw [hasL_find, hall.out.none]
        rfl
      clear hall HC
      go_wp2
      go_ret
      exact ⟨ret_bool HN.out.symm, rfl⟩

set_option maxRecDepth 100000 in
set_option maxHeartbeats 1000000 in
theorem get_any (v : Value) (ls : List Lb) (n : ByteArray) (w : World) (h : LabsAt w v ls) (hl : ls.length ≤ 1000000) :
    Calls Tryd.prog 14 #[v, .string n] w fun e w' => e = .returned (.string (getL ls n)) ∧ Below w.heap.size w w' := by
  obtain ⟨a, c, rfl, -⟩ := id h
  have HC : Hid (LabsAt w (.slice a ls.length c) ls) := h
  clear h
  go_enter Tryd.func14, Tryd.ntmps14
  go_wp2
  go_loopw [9] (fun i wr => ∃ k : Nat, k ≤ ls.length ∧ i = .int .i64 k ∧ Hid (Not ls n k) ∧ Hid (Below w.heap.size w wr)) (fun i _ => ls.length - (intOf i).toNat)
  case atStart => exact ⟨0, Nat.zero_le _, rfl, Not.zero, Below.refl _ _⟩
  case round =>
    obtain ⟨k, hk, rfl, hall, hbel⟩ := hrel
    by_cases hlt : k < ls.length
    · obtain ⟨b, o, rfl, hone⟩ := HC.out.one k hlt
      obtain ⟨h0, h1⟩ := hone wr hbel.out
      clear hone HC
      obtain ⟨x, hx⟩ : ∃ x, x = ls[k].1 := ⟨_, rfl⟩
      obtain ⟨y, hy⟩ : ∃ y, y = ls[k].2 := ⟨_, rfl⟩
      rw [← hx] at h0
      rw [← hy] at h1
      have HX : Hid (x = ls[k].1 ∧ y = ls[k].2) := ⟨hx, hy⟩
      clear hx hy
      have HB : Hid (∀ o, Below w.heap.size w (wr.alloc o)) := fun o => hbel.out.alloc hbel.out.size o
      cases hxn : x.toList == n.toList
      · have HN : Hid (Not ls n (k + 1)) := hall.out.succ hlt (by rw [← HX.out.1]; exact hxn)
        clear hall HX
        go_wp2
        go_roundw
        case rel => exact ⟨k + 1, by omega, by go_num, HN, HB.out _⟩
        case measure => simp [intOf]; omega
      · have HN : Hid (getL ls n = y) := by
          show _ = _
          rw [getL_find, hall.out.find hlt (by rw [← HX.out.1]; exact hxn), HX.out.2]
          rfl
        clear hall HX
        go_wp2
        go_ret
        exact ⟨ret_str HN.out.symm, HB.out _⟩
    · have HN : Hid (getL ls n = ⟨#[]⟩) := by
        have e : k = ls.length := by omega
        subst e
        show _ = _
        rw [getL_find, hall.out.none]
        rfl
      clear hall HC
      go_wp2
      go_ret
      exact ⟨ret_str HN.out.symm, hbel.out⟩

end Go.Proofs.YtlfcnekmdojabaaDoor
