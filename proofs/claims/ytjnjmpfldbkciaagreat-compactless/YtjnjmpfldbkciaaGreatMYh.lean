/- risen of a list of one series. -/
import Derived.Test.YtjnjmpfldbkciaaGreatMYf
namespace Go.Proofs.YtjnjmpfldbkciaaGreat
open Go.RowKit Go.Sort Go.Shelf Go.Lib

/-- A slice of one series, at a block of its own from base on, whose own rows lie from base on too. -/
def OneAt (base lo : Nat) (w : World) (v : Value) (z : Ser) : Prop := ∃ g c vl vs, v = .slice (some ⟨g, 0, none⟩) 1 c ∧ w.ownsRow base 36 2 v 1 [vl, vs] ∧ LbAt w vl z.1 ∧ SmAt w vs z.2 ∧ (∀ b, blkOf vl = some b → lo ≤ b ∧ b < w.heap.size) ∧ ∀ b, blkOf vs = some b → lo ≤ b ∧ b < w.heap.size
theorem row_blk {w : World} {base k n : Nat} {e : TypeId} {v : Value} {xs : List Value} (h : w.ownsRow base e k v n xs) : ∀ b, blkOf v = some b → b < w.heap.size := fun b hb => by
  rcases h.2 with ⟨rfl, _⟩ | ⟨g, cap, cur, rfl, h2, h3, _⟩
  · cases hb
  · cases hb
    exact (Array.getElem?_eq_some_iff.1 h3).1
theorem row_base {w : World} {base k n : Nat} {e : TypeId} {v : Value} {xs : List Value} (h : w.ownsRow base e k v n xs) : ∀ b, blkOf v = some b → base ≤ b := fun b hb => by
  rcases h.2 with ⟨rfl, _⟩ | ⟨g, cap, cur, rfl, h2, h3, _⟩
  · cases hb
  · cases hb
    exact h2
theorem OneAt.below {base lo : Nat} {w w' : World} {v : Value} {z : Ser} (h : OneAt base lo w v z) (hb : Below w.heap.size w w') : OneAt base lo w' v z := by
  obtain ⟨g, c, vl, vs, rfl, h1, h2, h3, h4, h5⟩ := h
  exact ⟨g, c, vl, vs, rfl, row_below h1 hb, RowAt.below h2 hb, RowAt.below h3 hb, fun b hb' => ⟨(h4 b hb').1, Nat.lt_of_lt_of_le (h4 b hb').2 hb.size⟩, fun b hb' => ⟨(h5 b hb').1, Nat.lt_of_lt_of_le (h5 b hb').2 hb.size⟩⟩
theorem row_some {w : World} {base k n : Nat} {e : TypeId} {v : Value} {xs : List Value} (h : w.ownsRow base e k v n xs) (hn : 0 < n) : ∃ g c cur, v = .slice (some ⟨g, 0, none⟩) n c ∧ base ≤ g ∧ w.heap[g]? = some (.cells cur e (0, 0)) := by
  rcases h.2 with ⟨_, h0⟩ | ⟨g, cap, cur, rfl, h2, h3, _⟩
  · omega
  · exact ⟨g, cap, cur, rfl, h2, h3⟩

theorem row_apart {w : World} {b1 b2 k1 k2 n1 n2 : Nat} {e1 e2 : TypeId} {v1 v2 : Value} {c1 c2 : List Value} (h1 : w.ownsRow b1 e1 k1 v1 n1 c1) (h2 : w.ownsRow b2 e2 k2 v2 n2 c2) (hne : e1 ≠ e2) : ∀ g, v1.ownBlock = some g → v2.ownBlock ≠ some g := fun g hg1 hg2 => by
  rcases h1.2 with ⟨rfl, _⟩ | ⟨g1, c1, cur1, rfl, -, hh1, -⟩
  · cases hg1
  · rcases h2.2 with ⟨rfl, _⟩ | ⟨g2, c2, cur2, rfl, -, hh2, -⟩
    · cases hg2
    · simp [Value.ownBlock] at hg1 hg2
      subst hg1
      subst hg2
      rw [hh1] at hh2
      cases hh2
      exact hne rfl

set_option maxRecDepth 100000 in
set_option maxHeartbeats 2000000 in
theorem risen1 (v : Value) (vl vs : Value) (z : Ser) (w : World) (h : RowAt w v 2 1 [vl, vs]) (h1 : LbAt w vl z.1) (h2 : SmAt w vs z.2) (hl1 : z.1.length ≤ 900) (hl2 : z.2.length < 20) (hl3 : 0 < z.2.length) (hi : insS z.2 = z.2) (hd : ∀ i (h : i + 1 < z.2.length), z.2[i + 1].1 ≠ z.2[i].1) :
    Calls Tryz.prog 48 #[v] w fun e w' => ∃ v', e = .returned v' ∧ OneAt w.heap.size w.heap.size w' v' z ∧ Below w.heap.size w w' := by
  obtain ⟨ls, xs⟩ := z
  dsimp only at *
  have ho : ∀ u ∈ [vl, vs], u.oneCell' = true := by
    obtain ⟨a1, c1, rfl, -⟩ := id h1
    obtain ⟨a2, c2, rfl, -⟩ := id h2
    intro u hu
    simp at hu
    rcases hu with rfl | rfl <;> rfl
  have hcl := cloneSr v 1 [vl, vs] w h ho (by omega)
  have HCP : Hid (∀ W, Below w.heap.size w W → Calls Tryz.prog 51 #[.agg #[vl, vs]] W fun e w' => ∃ u, e = .returned u ∧ Fresh W w' u (ls, xs) ∧ Below W.heap.size W w') := fun W hW => copied_any vl vs (ls, xs) W (RowAt.below h1 hW) (RowAt.below h2 hW) (by simpa using (by omega : ls.length ≤ 900000)) (by simpa using (by omega : xs.length ≤ 900000))
  have HRS : Hid (∀ (W : World) (base g c : Nat), W.ownsRow base 42 2 (.slice (some ⟨g, 0, none⟩) xs.length c) xs.length (smC xs) → Calls Tryz.prog 74 #[.slice (some ⟨g, 0, none⟩) xs.length c] W fun e w' => e = .returned (.slice (some ⟨g, 0, none⟩) xs.length c) ∧ w'.ownsRow base 42 2 (.slice (some ⟨g, 0, none⟩) xs.length c) xs.length (smC xs) ∧ Kept (fun i => i = g) W w') := fun W base g c hW => by
    have hdd : ∀ ys : List Sm, ys = xs → ∀ i (h : i + 1 < ys.length), ys[i + 1].1 ≠ ys[i].1 := by rintro _ rfl; exact hd
    have h9 := risenSm xs.length g c xs W base rfl (by rw [hi]) hW hl2 (hdd _ hi)
    rw [hi] at h9
    exact h9
  obtain ⟨a0, c0, rfl, -⟩ := id h
  obtain ⟨al, cl, rfl, -⟩ := id h1
  obtain ⟨as_, cs_, rfl, -⟩ := id h2
  clear h h1 h2 ho hd hi
  go_enter Tryz.func48, Tryz.ntmps48
  go_wp2_with (first
    | (go_at_call 71; refine hcl.mono ?_; clear hcl; rintro e w1 ⟨a1, c1, rfl, hr1, hb1⟩)
    | (go_at_call 72; refine (sortStSr1 _ _ _ _).mono ?_; rintro e w2 ⟨rfl, e8⟩; have e8 := e8.symm; subst e8))
  obtain ⟨g1, c9, cur1, e9, hg1, hh1⟩ := row_some hr1 (by omega)
  cases e9
  have HQ : Hid (∀ W, Below w1.heap.size w1 W → W.cell? ⟨g1, 0, none⟩ = some (.slice al ls.length cl) ∧ W.cell? ⟨g1, 1, none⟩ = some (.slice as_ xs.length cs_)) := fun W hW => by
    have q0 := RowAt.one (RowAt.of_row hr1) (j := 0) rfl
    have q1 := RowAt.one (RowAt.of_row hr1) (j := 1) rfl
    obtain ⟨b, o, e, q0⟩ := q0
    cases e
    obtain ⟨b, o, e, q1⟩ := q1
    cases e
    exact ⟨q0 W hW, q1 W hW⟩
  have HB1 : Hid (Below w.heap.size w w1) := hb1
  have hsz1 := hb1.size
  clear hr1 hh1 hb1
  go_loopw [4, 16] (fun vo i wr => (i = .int .i64 0 ∧ vo = .slice none 0 0 ∧ wr = w1) ∨ (i = .int .i64 1 ∧ ∃ g2 c2 a3 c3 g4 c4, vo = .slice (some ⟨g2, 0, none⟩) 1 c2 ∧ Hid (w1.heap.size ≤ g2 ∧ wr.ownsRow w1.heap.size 36 2 (.slice (some ⟨g2, 0, none⟩) 1 c2) 1 [.slice a3 ls.length c3, .slice (some ⟨g4, 0, none⟩) xs.length c4] ∧ wr.ownsRow w1.heap.size 53 2 (.slice a3 ls.length c3) ls.length (lbC ls) ∧ wr.ownsRow w1.heap.size 42 2 (.slice (some ⟨g4, 0, none⟩) xs.length c4) xs.length (smC xs) ∧ Below w1.heap.size w1 wr))) (fun _ i _ => 1 - (intOf i).toNat)
  case atStart => exact Or.inl ⟨rfl, rfl, rfl⟩
  case round =>
    rcases hrel with ⟨rfl, rfl, rfl⟩ | ⟨rfl, g2, c2, a3, c3, g4, c4, rfl, hrel⟩
    · obtain ⟨q0, q1⟩ := HQ.out wr (Below.refl _ _)
      have hX : Below wr.heap.size wr (wr.alloc (.cells #[.slice al ls.length cl, .slice as_ xs.length cs_] 36)) := (Below.refl _ _).alloc (Nat.le_refl _) _
      have HX : Hid _ := hX
      clear hX
      go_wp2_with fail
      go_quiet (fail)
      have hcp := HCP.out ((wr.alloc (.cells #[.slice al ls.length cl, .slice as_ xs.length cs_] 36)).drewN nq) (below_drewN (HB1.out.trans (HX.out.mono hsz1)) nq)
      have HXN : Hid (Below wr.heap.size wr ((wr.alloc (.cells #[.slice al ls.length cl, .slice as_ xs.length cs_] 36)).drewN nq)) := below_drewN HX.out nq
      clear HCP
      go_wp2_with (first
        | (go_at_call 51; refine hcp.mono ?_; clear hcp; rintro e w3 ⟨u, rfl, ⟨a3, c3, a4, c4, rfl, hra, hrb⟩, hb3⟩; dsimp only at hra hrb; have hs3 : wr.heap.size ≤ w3.heap.size := Nat.le_trans HXN.out.size hb3.size; have HRA : Hid (w3.ownsRow wr.heap.size 53 2 (.slice a3 ls.length c3) ls.length (lbC ls)) := row_mono hra HXN.out.size; have HRB : Hid (w3.ownsRow wr.heap.size 42 2 (.slice a4 xs.length c4) xs.length (smC xs)) := row_mono hrb HXN.out.size; have HB3 : Hid (Below wr.heap.size wr w3) := HXN.out.trans (hb3.mono HXN.out.size); clear hra hrb hb3)
        | (at_builtin; refine wpList_append_row appSr _ rfl _ _ rfl wr.heap.size _ 0 [] rfl (World.ownsRow_nil _ _ _ _) _ 1 [.slice a3 ls.length c3, .slice a4 xs.length c4] rfl (RowAt.of_block (cs := #[.slice a3 ls.length c3, .slice a4 xs.length c4]) (heap_alloc_new w3 _) rfl (by decide)) (by simp [Value.oneCell']) (by omega) (by simp; omega) ?_; intro a5 c5 w5 hr5 hg5 _))
      go_roundw
      case rel =>
        obtain ⟨g5, c9, cur5, e9, hg5', hh5⟩ := row_some hr5 (by omega)
        cases e9
        obtain ⟨g4, c9, cur4, e9, hg4', hh4⟩ := row_some HRB.out hl3
        cases e9
        have hal : Below w3.heap.size w3 (w3.alloc (.cells #[.slice a3 ls.length c3, .slice (some ⟨g4, 0, none⟩) xs.length c4] 36)) := (Below.refl _ _).alloc (Nat.le_refl _) _
        have hbw5 : Below w3.heap.size w3 w5 := hal.grown hg5 hal.size (fun k hk => by cases hk)
        exact Or.inr ⟨by go_num, g5, c5, a3, c3, g4, c4, rfl, hg5', by simpa using hr5, row_below HRA.out hbw5, row_below HRB.out hbw5, HB3.out.trans (hbw5.mono HB3.out.size)⟩
      case measure => simp [intOf]
    · clear HCP
      obtain ⟨hg2, hro, hrl, hrs, hbw⟩ := hrel
      have HRO : Hid _ := hro
      have HRL : Hid _ := hrl
      have HRS2 : Hid _ := hrs
      have HBW : Hid _ := hbw
      have HG2 : Hid _ := hg2
      clear hro hrl hrs hbw hg2
      go_wp2_with fail
      go_loopw [58] (fun i wz => (i = .int .i64 0 ∧ wz = wr) ∨ (i = .int .i64 1 ∧ Hid (OneAt w1.heap.size w1.heap.size wz (.slice (some ⟨g2, 0, none⟩) 1 c2) (ls, xs) ∧ Below w1.heap.size w1 wz))) (fun i _ => 1 - (intOf i).toNat)
      case atStart => exact Or.inl ⟨rfl, rfl⟩
      case round =>
        rcases hrel with ⟨rfl, rfl⟩ | ⟨rfl, hrel⟩
        · obtain ⟨b, o, e, q0⟩ := RowAt.one (RowAt.of_row HRO.out) (j := 0) rfl
          cases e
          obtain ⟨b, o, e, q1⟩ := RowAt.one (RowAt.of_row HRO.out) (j := 1) rfl
          cases e
          have q0 := q0 wr (Below.refl _ _)
          have q1 := q1 wr (Below.refl _ _)
          obtain ⟨W2, hW2⟩ : ∃ W2, W2 = wr.alloc (.cells #[.slice a3 ls.length c3, .slice (some ⟨g4, 0, none⟩) xs.length c4] 36) := ⟨_, rfl⟩
          have HA2 : Hid (Below wr.heap.size wr W2) := by show Below _ _ _; rw [hW2]; exact (Below.refl _ _).alloc (Nat.le_refl _) _
          have hrs := HRS.out W2 w1.heap.size g4 c4 (row_below HRS2.out HA2.out)
          have HO2 : Hid (W2.ownsRow w1.heap.size 36 2 (.slice (some ⟨g2, 0, none⟩) 1 c2) 1 [.slice a3 ls.length c3, .slice (some ⟨g4, 0, none⟩) xs.length c4]) := row_below HRO.out HA2.out
          have HL2 : Hid (W2.ownsRow w1.heap.size 53 2 (.slice a3 ls.length c3) ls.length (lbC ls)) := row_below HRL.out HA2.out
          have hgne : ∀ (e : TypeId) (v : Value) (k n : Nat) (cs : List Value), e ≠ 42 → W2.ownsRow w1.heap.size e k v n cs → ∀ b, v.ownBlock = some b → ¬ b = g4 := fun e v k n cs he hv b hb hbe => by
            subst hbe
            obtain ⟨g9, c9, cur9, e9, -, hh9⟩ := row_some (row_below HRS2.out HA2.out) hl3
            cases e9
            rcases hv.2 with ⟨rfl, _⟩ | ⟨g8, c8, cur8, rfl, -, hh8, -⟩
            · cases hb
            · simp [Value.ownBlock] at hb
              subst hb
              rw [hh9] at hh8
              cases hh8
              exact he rfl
          have HKE : Hid (∀ W, Kept (fun i => i = g4) W2 W → W.ownsRow w1.heap.size 36 2 (.slice (some ⟨g2, 0, none⟩) 1 c2) 1 [.slice a3 ls.length c3, .slice (some ⟨g4, 0, none⟩) xs.length c4] ∧ W.ownsRow w1.heap.size 53 2 (.slice a3 ls.length c3) ls.length (lbC ls) ∧ Below w1.heap.size w1 W) := fun W hW => by
            obtain ⟨g9, c9, cur9, e9, hg9, hh9⟩ := row_some HRS2.out hl3
            cases e9
            have h8 := HBW.out.size
            refine ⟨Kept.ownsRow hW HO2.out (hgne _ _ _ _ _ (by decide) HO2.out), Kept.ownsRow hW HL2.out (hgne _ _ _ _ _ (by decide) HL2.out), (HBW.out.trans (HA2.out.mono h8)).trans (hW.toBelow (Nat.le_trans h8 HA2.out.size) (fun i hi => by omega))⟩
          clear HRS hgne
          go_wp2_with (go_at_call 74; rw [← hW2]; refine hrs.mono ?_; clear hrs; rintro e w6 ⟨rfl, hr6, hk6⟩; obtain ⟨ho6, hl6, hb6⟩ := HKE.out w6 hk6; obtain ⟨⟨u6, r1⟩, r2⟩ := row_cell ho6 (j := 1) (by omega); have HO6 : Hid _ := ho6; have HL6 : Hid _ := hl6; have HB6 : Hid _ := hb6; have HR6 : Hid _ := hr6; clear ho6 hl6 hb6 hr6 hk6)
          go_roundw
          case rel =>
            have hks : Kept (fun i => i = g2) w6 (w6.setCell ⟨g2, 1, none⟩ (.slice (some ⟨g4, 0, none⟩) xs.length c4)) := (Kept.refl (fun i => i = g2) _).setCell (fun _ => rfl) _
            refine Or.inr ⟨rfl, ⟨g2, c2, .slice a3 ls.length c3, .slice (some ⟨g4, 0, none⟩) xs.length c4, rfl, ?_, ?_, ?_, ?_, ?_⟩, HB6.out.setCell HG2.out _⟩
            · exact ownsRow_set HO6.out rfl (i := 1) _
            · exact RowAt.of_row (Kept.ownsRow hks HL6.out (fun b hb hbe => row_apart HL6.out HO6.out (by decide) b hb (by rw [hbe]; rfl)))
            · exact RowAt.of_row (Kept.ownsRow hks HR6.out (fun b hb hbe => row_apart HR6.out HO6.out (by decide) b hb (by rw [hbe]; rfl)))
            · exact fun b hb => ⟨row_base HL6.out b hb, Nat.lt_of_lt_of_le (row_blk HL6.out b hb) hks.size⟩
            · exact fun b hb => ⟨row_base HR6.out b hb, Nat.lt_of_lt_of_le (row_blk HR6.out b hb) hks.size⟩
          case measure => simp [intOf]
        · have HF : Hid _ := hrel.out
          clear hrel
          go_wp2
          go_ret
          exact ⟨_, rfl, by
            obtain ⟨g, c, vl, vs, e, k1, k2, k3, k4, k5⟩ := HF.out.1
            exact ⟨g, c, vl, vs, e, row_mono k1 hsz1, k2, k3, fun b hb => ⟨Nat.le_trans hsz1 (k4 b hb).1, (k4 b hb).2⟩, fun b hb => ⟨Nat.le_trans hsz1 (k5 b hb).1, (k5 b hb).2⟩⟩, HB1.out.trans (HF.out.2.mono hsz1)⟩

end Go.Proofs.YtjnjmpfldbkciaaGreat
