/- cut of the statement. -/
import Derived.Test.YtjnjmpfldbkciaaGreatMC4
namespace Go.Proofs.YtjnjmpfldbkciaaGreat
open Go.RowKit Go.Maps

theorem smC_take (l : List Sm) (k : Nat) (hk : k ≤ l.length) : smC (l.take k) = (smC l).take (k * 2) := by
  have h1 : smC l = smC (l.take k) ++ smC (l.drop k) := by rw [← smC_append, List.take_append_drop]
  have h2 : (smC (l.take k)).length = k * 2 := by rw [smC_length, List.length_take, Nat.min_eq_left hk]
  rw [h1, ← h2, List.take_left]
theorem SmAt.take {w : World} {a : Option Addr} {c : Nat} {l : List Sm} (h : SmAt w (.slice a l.length c) l) {k : Nat} (hk : k ≤ l.length) : SmAt w (.slice a k c) (l.take k) := by
  obtain ⟨a', c', e, h1, h2, h3⟩ := h
  cases e
  have hl : (l.take k).length = k := by rw [List.length_take, Nat.min_eq_left hk]
  refine ⟨a, c, by rw [hl], ⟨by rw [hl]; omega, h1.2⟩, by rw [smC_length], fun j u hj => ?_⟩
  rw [smC_take l k hk] at hj
  have hj2 := (List.getElem?_eq_some_iff.1 hj).1
  rw [List.length_take] at hj2
  rw [List.getElem?_take_of_lt (by omega)] at hj
  exact h3 j u hj
theorem heap_alloc_set (w : World) (p : Addr) (u : Value) (o : Obj) : ((w.setCell p u).alloc o).heap[w.heap.size]? = some o := by
  have h := heap_alloc_new (w.setCell p u) o
  rw [show (w.setCell p u).heap.size = w.heap.size by simp [World.setCell]] at h
  exact h
theorem SRow.box {w W : World} {v : Value} {out : List Sr} (h : SRow w W v out) {x : Nat} (hx : w.heap.size ≤ x) (hv : ∀ k, v.ownBlock = some k → k ≠ x) {cs : Array Value} {fr : Nat × Nat} (hh : W.heap[x]? = some (.cells cs 36 fr)) (i : Nat) (u : Value) : SRow w (W.setCell ⟨x, i, none⟩ u) v out := by
  have hk : Kept (fun k => k = x) W (W.setCell ⟨x, i, none⟩ u) := Kept.setCell (O := fun k => k = x) (p := ⟨x, i, none⟩) (Kept.refl _ W) (fun _ => rfl) u
  have ht : TurnT 36 w W (W.setCell ⟨x, i, none⟩ u) := ⟨_, hk, fun k e => e ▸ hx, fun k e => ⟨cs, fr, e ▸ hh⟩⟩
  exact ⟨hk.ownsRow h.row (fun k e => hv k e), fun s hs => (h.ok s hs).turn ht (by decide) (by decide), ht.to h.bel⟩

set_option maxRecDepth 100000 in
set_option maxHeartbeats 2000000 in
theorem cut_any (v : Value) (l : List Sr) (w : World) (h : RowAt w v 2 l.length (srC l)) (hg : ∀ s ∈ l, SCame w s) :
    Calls Tryz.prog 4 #[v] w fun e w' => ∃ u, e = .returned u ∧ ∃ out, SRow w w' u out ∧ out.length ≤ 12 := by
  obtain ⟨a, c, rfl, hlc, -⟩ := id h
  have hl : l.length ≤ 9223372036854775807 := Nat.le_trans hlc.1 hlc.2
  have HC : Hid (RowAt w (.slice a l.length c) 2 l.length (srC l)) := h
  have HG : Hid (∀ s ∈ l, SCame w s) := hg
  clear h hg hlc
  go_enter Tryz.func4, Tryz.ntmps4
  go_wp2
  go_loopw [3, 4] (fun s i wr => ∃ (k n : Nat) (out : List Sr) (sa : Option Addr) (sc : Nat), k ≤ l.length ∧ n ≤ 12 ∧ Hid (out.length = n) ∧ i = .int .i64 k ∧ s = .slice sa n sc ∧ Hid (SRow w wr (.slice sa n sc) out)) (fun _ i _ => l.length - (intOf i).toNat)
  case atStart => exact ⟨0, 0, [], none, 0, Nat.zero_le _, Nat.zero_le _, rfl, rfl, rfl, SRow.nil (Below.refl _ _)⟩
  case round =>
    obtain ⟨k, n, out, sa, sc, hk, hn, HON, rfl, rfl, hG⟩ := hrel
    by_cases hc : k < l.length ∧ n < 12
    · obtain ⟨hlt, h12⟩ := hc
      obtain ⟨b, o, rfl, hone⟩ := row2 HC.out k hlt
      have hcm := HG.out l[k] (List.getElem_mem hlt)
      obtain ⟨g, hge⟩ : ∃ g, g = l[k] := ⟨_, rfl⟩
      rw [← hge] at hone hcm
      obtain ⟨g0, g1⟩ := hone wr hG.out.bel
      obtain ⟨la, lc, hlv, -⟩ := id hcm.lab
      obtain ⟨ma, mc, hsv, hmc, -⟩ := id hcm.smp
      obtain ⟨gv, gls, gs, gss⟩ := g
      dsimp only at hlv hsv g0 g1 hone hmc
      subst hlv hsv
      have hB : Below wr.heap.size wr (wr.alloc (.cells #[.slice la gls.length lc, .slice ma gss.length mc] 36)) := (Below.refl _ wr).alloc (Nat.le_refl _) _
      have HR : Hid (Calls Tryz.prog 15 #[.slice la gls.length lc] (wr.alloc (.cells #[.slice la gls.length lc, .slice ma gss.length mc] 36)) fun e w' => e = .returned (.bool (rightS gls)) ∧ Below (wr.alloc (.cells #[.slice la gls.length lc, .slice ma gss.length mc] 36)).heap.size (wr.alloc (.cells #[.slice la gls.length lc, .slice ma gss.length mc] 36)) w') := refRight_any _ gls _ ((hcm.lab.below hG.out.bel).below hB) hcm.sz
      have HB2 : Hid (∀ w2, Below (wr.alloc (.cells #[.slice la gls.length lc, .slice ma gss.length mc] 36)).heap.size (wr.alloc (.cells #[.slice la gls.length lc, .slice ma gss.length mc] 36)) w2 → SRow w w2 (.slice sa n sc) out ∧ w2.heap[wr.heap.size]? = some (.cells #[.slice la gls.length lc, .slice ma gss.length mc] 36)) := fun w2 hb => by
        refine ⟨hG.out.below (hB.trans (hb.mono hB.size)), ?_⟩
        rw [hb.block _ (by simp)]
        exact heap_alloc_new wr _
      have HI : Hid (rightS gls = true → ∀ W, gss.length ≤ 40 → SIn w W ⟨.slice la gls.length lc, gls, .slice ma gss.length mc, gss⟩) := fun hr W h40 => ⟨Or.inl hcm.lab, right_few hr, Or.inl hcm.smp, h40⟩
      have HI2 : Hid (rightS gls = true → ∀ W, 40 ≤ gss.length → SIn w W ⟨.slice la gls.length lc, gls, .slice ma 40 mc, gss.take 40⟩) := fun hr W h40 => ⟨Or.inl hcm.lab, right_few hr, Or.inl (hcm.smp.take h40), by simp; omega⟩
      have HLT : Hid (w.heap.size ≤ wr.heap.size ∧ ∀ k, (Value.slice sa n sc).ownBlock = some k → k ≠ wr.heap.size) := ⟨hG.out.bel.size, fun k hk e => by have := (hG.out.row.lt k hk).2; omega⟩
      have hmc2 : gss.length ≤ mc := hmc.1
      have hmc3 : mc ≤ 9223372036854775807 := hmc.2
      clear hone hcm hge HC HG hB hmc
      generalize hrs : rightS gls = rs at *
      cases rs
      · clear HI HI2
        go_wp2_with (go_at_call 15; refine HR.out.mono ?_; rintro e w2 ⟨rfl, hb2⟩; obtain ⟨hS2, hh2⟩ := HB2.out w2 hb2; have q0 := cell_of_heap (i := 0) hh2; have q1 := cell_of_heap (i := 1) hh2)
        go_roundw
        case rel => exact ⟨k + 1, n, out, sa, sc, by omega, by omega, HON, by go_num, rfl, hS2⟩
        case measure => simp [intOf]; omega
      · by_cases h40 : gss.length ≤ 40
        · have h40' : ¬ (40 : Int) < (gss.length : Int) := by omega
          have HA : Hid (∀ w2, SRow w w2 (.slice sa n sc) out → ∀ o, (w2.alloc o).ownsRow w.heap.size 36 2 (.slice sa n sc) n (srC out) ∧ w.heap.size ≤ (w2.alloc o).heap.size) := fun w2 h1 o => by
            have h2 := h1.row
            rw [HON.out] at h2
            refine ⟨h2.alloc o, ?_⟩
            have := h1.bel.size
            simp
            omega
          have HI' := HI.out rfl
          have HI'' : Hid (∀ W, SIn w W ⟨.slice la gls.length lc, gls, .slice ma gss.length mc, gss⟩) := fun W => HI' W h40
          clear HI HI2 hrs HI' h40
          go_wp2_with (first
            | (go_at_call 15; refine HR.out.mono ?_; rintro e w2 ⟨rfl, hb2⟩; obtain ⟨hS2, hh2⟩ := HB2.out w2 hb2; have q0 := cell_of_heap (i := 0) hh2; have q1 := cell_of_heap (i := 1) hh2)
            | (at_builtin; refine wpList_append_row appSr _ rfl _ _ rfl w.heap.size _ n (srC out) rfl (HA.out w2 hS2 _).1 _ 1 [.slice la gls.length lc, .slice ma gss.length mc] rfl (RowAt.of_block (cs := #[.slice la gls.length lc, .slice ma gss.length mc]) (heap_alloc_new w2 _) rfl (by decide)) (by simp [Value.oneCell']) (by omega) (HA.out w2 hS2 _).2 ?_; intro a5 c5 w5 hr5 hg5 hw5))
          go_roundw
          case rel =>
            refine ⟨k + 1, n + 1, out ++ [⟨.slice la gls.length lc, gls, .slice ma gss.length mc, gss⟩], a5, c5, by omega, by omega, by show _ = _; rw [List.length_append, HON.out]; rfl, by go_num, rfl, ?_⟩
            exact hS2.more _ (HI''.out w2) (by rw [HON.out]; exact hr5) hg5
          case measure => simp [intOf]; omega
        · have h40' : (40 : Int) < (gss.length : Int) := by omega
          have HA : Hid (∀ w2, SRow w w2 (.slice sa n sc) out → ∀ o, (w2.alloc o).ownsRow w.heap.size 36 2 (.slice sa n sc) n (srC out) ∧ w.heap.size ≤ (w2.alloc o).heap.size) := fun w2 h1 o => by
            have h2 := h1.row
            rw [HON.out] at h2
            refine ⟨h2.alloc o, ?_⟩
            have := h1.bel.size
            simp
            omega
          have HI' := HI2.out rfl
          have HI'' : Hid (∀ W, SIn w W ⟨.slice la gls.length lc, gls, .slice ma 40 mc, gss.take 40⟩) := fun W => HI' W (by omega)
          have HBX : Hid (∀ w2, SRow w w2 (.slice sa n sc) out → w2.heap[wr.heap.size]? = some (.cells #[.slice la gls.length lc, .slice ma gss.length mc] 36) → SRow w (w2.setCell ⟨wr.heap.size, 1, none⟩ (.slice ma 40 mc)) (.slice sa n sc) out) := fun w2 h1 h2 => h1.box HLT.out.1 HLT.out.2 h2 1 _
          clear HI HI2 hrs HI' h40
          go_wp2_with (first
            | (go_at_call 15; refine HR.out.mono ?_; rintro e w2 ⟨rfl, hb2⟩; obtain ⟨hS2, hh2⟩ := HB2.out w2 hb2; have q0 := cell_of_heap (i := 0) hh2; have q1 := cell_of_heap (i := 1) hh2; have q2 := frozen_of_heap (i := 1) hh2; have hS3 := HBX.out w2 hS2 hh2; have hh3 := heap_setCell_same (i := 1) hh2 (.slice ma 40 mc); have q3 := cell_of_heap (i := 0) hh3; have q4 := cell_of_heap (i := 1) hh3)
            | (at_builtin; refine wpList_append_row appSr _ rfl _ _ rfl w.heap.size _ n (srC out) rfl (HA.out _ hS3 _).1 _ 1 [.slice la gls.length lc, .slice ma 40 mc] rfl (RowAt.of_block (cs := #[.slice la gls.length lc, .slice ma 40 mc]) (heap_alloc_set _ _ _ _) rfl (by decide)) (by simp [Value.oneCell']) (by omega) (HA.out _ hS3 _).2 ?_; intro a5 c5 w5 hr5 hg5 hw5))
          go_roundw
          case rel =>
            refine ⟨k + 1, n + 1, out ++ [⟨.slice la gls.length lc, gls, .slice ma 40 mc, gss.take 40⟩], a5, c5, by omega, by omega, by show _ = _; rw [List.length_append, HON.out]; rfl, by go_num, rfl, ?_⟩
            exact hS3.more _ (HI''.out _) (by rw [HON.out]; exact hr5) hg5
          case measure => simp [intOf]; omega
    · have h12 : k < l.length → ¬ ((n : Int) < 12) := fun h1 h2 => hc ⟨h1, by omega⟩
      have HF : Hid (∃ out : List Sr, SRow w wr (.slice sa n sc) out ∧ out.length ≤ 12) := ⟨out, hG.out, by rw [HON.out]; exact hn⟩
      clear hc HC HG hG
      by_cases hlt : k < l.length
      · have h12' := h12 hlt
        clear h12
        go_wp2
        go_ret
        obtain ⟨out', h1, h2⟩ := HF.out
        exact ⟨_, rfl, out', h1, h2⟩
      · clear h12
        go_wp2
        go_ret
        obtain ⟨out', h1, h2⟩ := HF.out
        exact ⟨_, rfl, out', h1, h2⟩

end Go.Proofs.YtjnjmpfldbkciaaGreat
