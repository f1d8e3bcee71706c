/- The document's order of sets. -/
import Derived.Test.YtjnjmpfldbkciaaGreatB8
import Derived.BigQuiet
namespace Go.Proofs.YtjnjmpfldbkciaaGreat
open Go.RowKit

/-- Orders have been drawn; nothing else. -/
def DrW (w w' : World) : Prop := ∃ q, w' = w.drewN q
theorem DrW.refl (w : World) : DrW w w := ⟨0, rfl⟩
theorem DrW.drewN {w w' : World} (h : DrW w w') (n : Nat) : DrW w (w'.drewN n) := by
  obtain ⟨q, rfl⟩ := h
  exact ⟨q + n, World.drewN_drewN _ _ _⟩
theorem DrW.below {w w' : World} (h : DrW w w') : Below w.heap.size w w' := by
  obtain ⟨q, rfl⟩ := h
  exact below_drewN (Below.refl _ _) q

set_option maxRecDepth 100000 in
set_option maxHeartbeats 1500000 in
theorem refCompare_any (v u : Value) (ls ms : List Lb) (w : World) (h : LbAt w v ls) (hm : LbAt w u ms) (hl : ls.length ≤ 1000000) (_hl2 : ms.length ≤ 1000000) :
    Calls Tryz.prog 16 #[v, u] w fun e w' => e = .returned (.int .i64 (cmpL ls ms)) ∧ DrW w w' := by
  obtain ⟨a, c, rfl, -⟩ := id h
  obtain ⟨a2, c2, rfl, -⟩ := id hm
  have HC : Hid (LbAt w (.slice a ls.length c) ls) := h
  have HM : Hid (LbAt w (.slice a2 ms.length c2) ms) := hm
  clear h hm
  go_enter Tryz.func16, Tryz.ntmps16
  go_wp2
  go_loopw [5] (fun i wr => ∃ k : Nat, k ≤ ls.length ∧ k ≤ ms.length ∧ i = .int .i64 k ∧ Hid (cmpL (ls.drop k) (ms.drop k) = cmpL ls ms) ∧ Hid (DrW w wr)) (fun i _ => ls.length - (intOf i).toNat)
  case atStart => exact ⟨0, Nat.zero_le _, Nat.zero_le _, rfl, rfl, DrW.refl _⟩
  case round =>
    obtain ⟨k, hk, hk2, rfl, hall, hbel⟩ := hrel
    by_cases hlt : k < ls.length
    · by_cases hlt2 : k < ms.length
      · obtain ⟨b, o, rfl, hone⟩ := HC.out.one k hlt
        obtain ⟨b2, o2, rfl, hone2⟩ := HM.out.one k hlt2
        obtain ⟨x, hx⟩ : ∃ x, x = ls[k] := ⟨_, rfl⟩
        obtain ⟨y, hy⟩ : ∃ y, y = ms[k] := ⟨_, rfl⟩
        rw [← hx] at hone
        rw [← hy] at hone2
        obtain ⟨g0, g1⟩ := hone _ hbel.out.below
        obtain ⟨e0, e1⟩ := hone2 _ hbel.out.below
        have HST : Hid (cmpL ls ms = if cmpLb x y = 0 then cmpL (ls.drop (k + 1)) (ms.drop (k + 1)) else cmpLb x y) := by
          show _ = _
          rw [← hall.out, cmpL_drop hlt hlt2, hx, hy]
        clear hone hone2 hx hy HC HM hall
        obtain ⟨x1, x2⟩ := x
        obtain ⟨y1, y2⟩ := y
        dsimp only at g0 g1 e0 e1
        have hkl : (k : Int) < (ls.length : Int) := by omega
        have hkl2 : (k : Int) < (ms.length : Int) := by omega
        cases h1 : Op.bytesLess x1.toList y1.toList
        · cases h2 : (x1.toList == y1.toList)
          rotate_left
          · have hc1 := cb_eq h2
            cases h3 : Op.bytesLess x2.toList y2.toList
            · cases h4 : (x2.toList == y2.toList)
              rotate_left
              · have hc2 := cb_eq h4
                have HR : Hid (cmpL (ls.drop (k + 1)) (ms.drop (k + 1)) = cmpL ls ms) := by
                  show _ = _
                  rw [HST.out, cmpLb, hc1, if_pos rfl, hc2, if_pos rfl]
                clear HST hc1 hc2
                go_wp2
                go_quiet (fail)
                go_wp2
                go_quiet (fail)
                go_wp2
                go_quiet (fail)
                go_wp2
                go_quiet (fail)
                go_wp2
                go_roundw
                case rel => exact ⟨k + 1, by omega, by omega, by go_num, HR, DrW.drewN hbel.out _⟩
                case measure => simp [intOf]; omega
              · have hc2 := cb_more h3 h4
                have HR : Hid (cmpL ls ms = 1) := by
                  show _ = _
                  rw [HST.out, cmpLb, hc1, if_pos rfl, hc2]
                  rfl
                clear HST hc1 hc2
                go_wp2
                go_quiet (fail)
                go_wp2
                go_quiet (fail)
                go_wp2
                go_quiet (fail)
                go_wp2
                go_quiet (fail)
                go_wp2
                go_ret
                exact ⟨by rw [HR.out]; rfl, DrW.drewN (DrW.drewN (DrW.drewN (DrW.drewN hbel.out _) _) _) _⟩
            · have hc2 := cb_less h3
              have HR : Hid (cmpL ls ms = -1) := by
                show _ = _
                rw [HST.out, cmpLb, hc1, if_pos rfl, hc2]
                rfl
              clear HST hc1 hc2
              go_wp2
              go_quiet (fail)
              go_wp2
              go_quiet (fail)
              go_wp2
              go_quiet (fail)
              go_wp2
              go_ret
              exact ⟨by rw [HR.out]; rfl, DrW.drewN (DrW.drewN (DrW.drewN hbel.out _) _) _⟩
          · have hc1 := cb_more h1 h2
            have HR : Hid (cmpL ls ms = 1) := by
              show _ = _
              rw [HST.out, cmpLb, hc1]
              rfl
            clear HST hc1
            go_wp2
            go_quiet (fail)
            go_wp2
            go_quiet (fail)
            go_wp2
            go_ret
            exact ⟨by rw [HR.out]; rfl, DrW.drewN (DrW.drewN hbel.out _) _⟩
        · have hc1 := cb_less h1
          have HR : Hid (cmpL ls ms = -1) := by
            show _ = _
            rw [HST.out, cmpLb, hc1]
            rfl
          clear HST hc1
          go_wp2
          go_quiet (fail)
          go_wp2
          go_ret
          exact ⟨by rw [HR.out]; rfl, DrW.drewN hbel.out _⟩
      · have HR : Hid (cmpL ls ms = 1) := by
          show _ = _
          rw [← hall.out, List.drop_of_length_le (show ms.length ≤ k by omega), List.drop_eq_getElem_cons hlt]
          rfl
        have hlt3 : ms.length < ls.length := by omega
        clear hall HC HM
        go_wp2
        go_ret
        exact ⟨by rw [HR.out]; rfl, hbel.out⟩
    · by_cases hlt2 : ls.length < ms.length
      · have HR : Hid (cmpL ls ms = -1) := by
          show _ = _
          have e9 : k < ms.length := by omega
          rw [← hall.out, List.drop_of_length_le (show ls.length ≤ k by omega), List.drop_eq_getElem_cons e9]
          rfl
        clear hall HC HM
        go_wp2
        go_ret
        exact ⟨by rw [HR.out]; rfl, hbel.out⟩
      · have HR : Hid (cmpL ls ms = 0) := by
          show _ = _
          rw [← hall.out, List.drop_of_length_le (show ls.length ≤ k by omega), List.drop_of_length_le (show ms.length ≤ k by omega)]
          rfl
        clear hall HC HM
        go_wp2
        go_ret
        exact ⟨by rw [HR.out]; rfl, hbel.out⟩

end Go.Proofs.YtjnjmpfldbkciaaGreat
