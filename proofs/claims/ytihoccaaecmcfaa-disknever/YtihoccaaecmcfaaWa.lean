/- The numbers that say what a crash leaves. -/
import Derived.Test.YtihoccaaecmcfaaW9
namespace Go.Proofs.Ytihoccaaecmcfaa
open Go.RowKit Go.Maps Go.Sort
open Go.WideMaps Go.WideElems

/-- A slice of numbers. -/
structure CutsAt (w : World) (cv : Value) (cs : List Int) : Prop where
  shape : ∃ a c, cv = .slice a cs.length c
  cells : ∀ j x, cs[j]? = some x → ∃ b o l c, cv = .slice (some ⟨b, o, none⟩) l c ∧ w.cell? ⟨b, o + j, none⟩ = some (.int .i64 x)

/-- The number that the cuts have at i, brought to 0 to most. -/
def cutN (cs : List Int) (i most : Nat) : Nat := match cs[i]? with
  | none => 0
  | some x => (x % ((most : Int) + 1)).toNat

theorem cutN_le (cs : List Int) (i most : Nat) : cutN cs i most ≤ most := by
  unfold cutN
  split
  · omega
  · rename_i x _
    have h1 := Int.emod_nonneg x (show (most : Int) + 1 ≠ 0 by omega)
    have h2 := Int.emod_lt_of_pos x (show 0 < (most : Int) + 1 by omega)
    omega

theorem tmod_twice (x n : Int) (hn : 0 < n) : (x.tmod n + n).tmod n = x % n := by
  have h2 := Int.lt_tmod_of_pos x hn
  rw [Int.tmod_eq_emod_of_nonneg (show 0 ≤ x.tmod n + n by omega)]
  have h3 : x.tmod n + n = x + n * (1 - x.tdiv n) := by
    rw [Int.mul_sub, Int.tmod_def]
    omega
  rw [h3, Int.add_mul_emod_self_left]

set_option maxRecDepth 100000 in
set_option maxHeartbeats 1000000 in
theorem cut_any (w : World) (cv : Value) (cs : List Int) (h : CutsAt w cv cs) (i most : Nat) (iI mI : Int) (hi : iI = i) (hm : mI = most) (hmb : most ≤ 1000000000000) :
    Calls Try.prog 50 #[cv, .int .i64 iI, .int .i64 mI] w fun e w' => e = .returned (.int .i64 (cutN cs i most)) ∧ w' = w := by
  subst hi hm
  obtain ⟨a, c, rfl⟩ := h.shape
  by_cases hlt : i < cs.length
  · have hcs : cs[i]? = some cs[i] := List.getElem?_eq_getElem hlt
    obtain ⟨b, o, l, c', e, hcell⟩ := h.cells i _ hcs
    cases e
    generalize cs[i] = x at *
    have h0 : (i : Int) < (cs.length : Int) := by omega
    have t1 := Int.lt_tmod_of_pos x (show (0 : Int) < (most : Int) + 1 by omega)
    have t2 := Int.tmod_lt_of_pos x (show (0 : Int) < (most : Int) + 1 by omega)
    go_enter Try.func50, Try.ntmps50
    go_wp2
    go_ret
    have hcut : ((cutN cs i most : Nat) : Int) = (x.tmod ((most : Int) + 1) + ((most : Int) + 1)) % ((most : Int) + 1) := by
      have e1 := tmod_twice x ((most : Int) + 1) (by omega)
      rw [Int.tmod_eq_emod_of_nonneg (by omega)] at e1
      rw [e1]
      have h1 := Int.emod_nonneg x (show (most : Int) + 1 ≠ 0 by omega)
      unfold cutN
      rw [hcs]
      simp only
      omega
    exact ⟨by rw [hcut]; rfl, rfl⟩
  · have HN : Hid (cutN cs i most = 0) := by show _ = _; unfold cutN; rw [List.getElem?_eq_none (by omega)]
    go_enter Try.func50, Try.ntmps50
    go_wp2
    go_ret
    exact ⟨by rw [HN.out]; rfl, rfl⟩

end Go.Proofs.Ytihoccaaecmcfaa
