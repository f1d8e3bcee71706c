/- The order of members. -/
import Derived.Test.YtfkahbgphoonaaaXa
import Derived.Deep.RegionHeld3
namespace Go.Proofs.Ytfkahbgphoonaaa
open Go.RowKit Go.Shelf Go.Maps Go.Sort

def cmM (a b : Int) : Int := if a < b then -1 else if a ≤ b then 0 else 1
def cmpS (a b : ByteArray) : Int := if Op.bytesLess a.toList b.toList = true then -1 else if (Op.bytesLess a.toList b.toList || a.toList == b.toList) = true then 0 else 1
def orL : List Int → Int
  | [] => 0
  | x :: r => if x = 0 then orL r else x

set_option maxHeartbeats 1000000 in
theorem isNaNI_any (x : Int) (w : World) : Calls Try.prog 40 #[.int .i64 x] w fun e w' => e = .returned (.bool false) ∧ w' = w := by
  go_enter Try.func40, Try.ntmps40
  go_wp2
  go_ret
  exact ⟨by simp, rfl⟩
set_option maxHeartbeats 1000000 in
theorem isNaNS_any (x : ByteArray) (w : World) : Calls Try.prog 41 #[.string x] w fun e w' => e = .returned (.bool false) ∧ w' = w := by
  go_enter Try.func41, Try.ntmps41
  go_wp2
  go_ret
  exact ⟨by simp, rfl⟩
set_option maxHeartbeats 1000000 in
theorem compareI_any (x y : Int) (w : World) : Calls Try.prog 30 #[.int .i64 x, .int .i64 y] w fun e w' => e = .returned (.int .i64 (cmM x y)) ∧ w' = w := by
  unfold cmM
  by_cases h1 : x < y
  · go_enter Try.func30, Try.ntmps30
    go_wp2_with (go_at_call 40; refine (isNaNI_any _ _).mono ?_; rintro e w' ⟨rfl, rfl⟩)
    go_ret
    exact ⟨rfl, rfl⟩
  · by_cases h2 : x ≤ y
    · have h3 : ¬ y < x := by omega
      go_enter Try.func30, Try.ntmps30
      go_wp2_with (go_at_call 40; refine (isNaNI_any _ _).mono ?_; rintro e w' ⟨rfl, rfl⟩)
      go_ret
      exact ⟨rfl, rfl⟩
    · have h3 : y < x := by omega
      go_enter Try.func30, Try.ntmps30
      go_wp2_with (go_at_call 40; refine (isNaNI_any _ _).mono ?_; rintro e w' ⟨rfl, rfl⟩)
      go_ret
      exact ⟨rfl, rfl⟩
set_option maxHeartbeats 1000000 in
theorem compareS_any (x y : ByteArray) (w : World) : Calls Try.prog 31 #[.string x, .string y] w fun e w' => e = .returned (.int .i64 (cmpS x y)) ∧ w' = w := by
  unfold cmpS
  cases h1 : Op.bytesLess x.toList y.toList
  · cases h2 : x.toList == y.toList
    · go_enter Try.func31, Try.ntmps31
      go_wp2_with (go_at_call 41; refine (isNaNS_any _ _).mono ?_; rintro e w' ⟨rfl, rfl⟩)
      go_ret
      exact ⟨rfl, rfl⟩
    · go_enter Try.func31, Try.ntmps31
      go_wp2_with (go_at_call 41; refine (isNaNS_any _ _).mono ?_; rintro e w' ⟨rfl, rfl⟩)
      go_ret
      exact ⟨rfl, rfl⟩
  · go_enter Try.func31, Try.ntmps31
    go_wp2_with (go_at_call 41; refine (isNaNS_any _ _).mono ?_; rintro e w' ⟨rfl, rfl⟩)
    go_ret
    exact ⟨rfl, rfl⟩

set_option maxRecDepth 100000 in
set_option maxHeartbeats 1000000 in
theorem or_any (v : Value) (l : List Int) (w : World) (h : InAt w v l) (hl : l.length ≤ 1000) :
    Calls Try.prog 29 #[v] w fun e w' => e = .returned (.int .i64 (orL l)) ∧ w' = w := by
  obtain ⟨a1, c1, rfl, -⟩ := id h
  have HL : Hid (InAt w (.slice a1 l.length c1) l) := h
  clear h
  go_enter Try.func29, Try.ntmps29
  go_wp2
  go_loopw [8] (fun i wr => ∃ (k : Nat), k ≤ l.length ∧ i = .int .i64 k ∧ Hid (orL (l.drop k) = orL l) ∧ wr = w) (fun i _ => l.length - (intOf i).toNat)
  case atStart => exact ⟨0, Nat.zero_le _, rfl, rfl, rfl⟩
  case round =>
    obtain ⟨k, hk, rfl, hor, rfl⟩ := hrel
    by_cases hlt : k < l.length
    · obtain ⟨b0, o0, e0, hone⟩ := InAt.one HL.out k hlt
      subst e0
      have g0 := hone wr (Below.refl _ _)
      have HST : Hid (orL l = if l[k] = 0 then orL (l.drop (k + 1)) else l[k]) := by
        show _ = _
        rw [← hor.out, List.drop_eq_getElem_cons hlt]
        rfl
      generalize l[k] = x at *
      have hkl : (k : Int) < (l.length : Int) := by omega
      clear hone hor
      by_cases hx : x = 0
      · subst hx
        go_wp2_with fail
        go_roundw
        case rel => exact ⟨k + 1, by omega, by go_num, HST.out.symm, trivial⟩
        case measure => simp [intOf]; omega
      · go_wp2_with fail
        go_ret
        have h9 := HST.out
        rw [if_neg hx] at h9
        exact ⟨by rw [h9]; rfl, rfl⟩
    · have hkl : ¬ (k : Int) < (l.length : Int) := by omega
      have HE : Hid (orL l = 0) := by
        show _ = _
        rw [← hor.out, List.drop_of_length_le (by omega)]
        rfl
      clear hor
      go_wp2
      go_ret
      have h9 := HE.out
      exact ⟨by rw [h9]; rfl, rfl⟩

def cfM (x y : Mb) : Int := orL [cmM x.1 y.1, cmM x.2.lo y.2.lo, cmpS x.2.nm y.2.nm]

end Go.Proofs.Ytfkahbgphoonaaa
