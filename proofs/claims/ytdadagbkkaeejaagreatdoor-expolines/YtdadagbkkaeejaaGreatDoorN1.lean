/- Naturals: trimmed, grown. -/
import Derived.Test.YtdadagbkkaeejaaGreatDoorN0
namespace Go.Proofs.YtdadagbkkaeejaaGreatDoor.Nu
open Go.RowKit Go.Maps

set_option maxRecDepth 100000 in
set_option maxHeartbeats 1000000 in
theorem trimmed_any (a : Option Addr) (c : Nat) (ds : List UInt32) (w : World) (h : NAt w (.slice a ds.length c) ds) :
    Calls Tryz.prog 83 #[.slice a ds.length c] w fun e w' => e = .returned (.slice a (trimU ds).length c) ∧ w' = w := by
  obtain ⟨a', c', e, hlc, -⟩ := id h
  cases e
  have HN : Hid (NAt w (.slice a ds.length c) ds) := h
  clear h
  unfold maxLen at hlc
  go_enter Tryz.func83, Tryz.ntmps83
  go_wp2
  go_loop [0] (fun s => ∃ k : Nat, k ≤ ds.length ∧ s = .slice a k c ∧ Hid (trimU (ds.take k) = trimU ds)) (fun s => match s with | .slice _ n _ => n | _ => 0)
  case atStart => exact ⟨ds.length, Nat.le_refl _, rfl, by show _ = _; rw [List.take_length]⟩
  case round =>
    obtain ⟨k, hk, rfl, ht⟩ := hrel
    cases k with
    | zero =>
      have ht0 : ([] : List UInt32) = trimU ds := ht.out
      have HTL : Hid ((trimU ds).length = 0) := by show _ = _; rw [← ht0]; rfl
      clear ht0 ht
      go_wp2
      go_ret
      exact ⟨by rw [HTL.out]; rfl, rfl⟩
    | succ k =>
      have hlt : k < ds.length := by omega
      obtain ⟨b, o, rfl, hb, hc⟩ := HN.out.one k hlt
      obtain ⟨x, hx⟩ : ∃ x, x = ds[k] := ⟨_, rfl⟩
      rw [← hx] at hc
      have hxl : x.toNat < 4294967296 := x.toNat_lt
      have HT : Hid (trimU (ds.take k ++ [x]) = trimU ds) := by
        have := ht.out
        rw [List.take_succ_eq_append_getElem hlt, ← hx] at this
        exact this
      clear ht hx
      by_cases hx0 : x.toNat = 0
      · have HT2 : Hid (trimU (ds.take k) = trimU ds) := by
          have h9 := HT.out
          have : x = 0 := UInt32.toNat_inj.1 (by simpa using hx0)
          rw [this, trim_snoc_zero] at h9
          exact h9
        rw [hx0] at hc
        go_wp2
        go_round
        case rel => exact ⟨k, by omega, by simp, HT2⟩
        case measure => simp
      · have HTL : Hid ((trimU ds).length = k + 1) := by
          show _ = _
          have hne : x ≠ 0 := fun e => hx0 (by rw [e]; rfl)
          rw [← HT.out, trim_snoc_ne _ hne]
          simp
          omega
        go_wp2
        go_ret
        exact ⟨by rw [HTL.out]; rfl, rfl⟩

theorem norm_of_ge {es : List UInt32} (h : 0 < es.length → B (es.length - 1) ≤ valU es) : Norm es := fun x hx e => by
  subst e
  have h0 : es ≠ [] := fun e => by rw [e] at hx; cases hx
  obtain ⟨t, y, rfl⟩ : ∃ t y, es = t ++ [y] := ⟨es.dropLast, es.getLast h0, (List.dropLast_concat_getLast h0).symm⟩
  have hy : y = 0 := by simpa using hx
  subst hy
  have h1 := h (by simp)
  have h2 := valU_lt t
  rw [valU_snoc] at h1
  simp at h1
  omega
theorem set_word (es : List UInt32) (d y : UInt32) (t : List UInt32) : (u32s (es ++ d :: t)).set es.length (.int .u32 y.toNat) = u32s (es ++ [y] ++ t) := by
  unfold u32s
  rw [List.map_append, List.set_append_right _ _ (by simp)]
  simp
/-- A natural in memory of one's own. -/
def Big (w : World) (base : Nat) (v : Value) (N : Nat) : Prop := ∃ a c ds, v = .slice a ds.length c ∧ NRow w base v ds ∧ valU ds = N ∧ Norm ds
/-- A natural in memory. -/
def BigAt (w : World) (v : Value) (N : Nat) : Prop := ∃ a c ds, v = .slice a ds.length c ∧ NAt w v ds ∧ valU ds = N ∧ Norm ds
theorem Big.at {w : World} {base N : Nat} {v : Value} (h : Big w base v N) : BigAt w v N := by
  obtain ⟨a, c, ds, e, h1, h2, h3⟩ := h
  exact ⟨a, c, ds, e, h1.at, h2, h3⟩
theorem Big.kept {O : Nat → Prop} {w w' : World} {base N : Nat} {v : Value} (h : Big w base v N) (hk : Kept O w w') (hO : ∀ k, v.ownBlock = some k → ¬ O k) : Big w' base v N := by
  obtain ⟨a, c, ds, e, h1, h2, h3⟩ := h
  exact ⟨a, c, ds, e, h1.kept hk hO, h2, h3⟩
theorem Big.below {w w' : World} {base N : Nat} {v : Value} (h : Big w base v N) (hb : Below w.heap.size w w') : Big w' base v N := by
  obtain ⟨a, c, ds, e, h1, h2, h3⟩ := h
  exact ⟨a, c, ds, e, h1.below hb, h2, h3⟩
theorem BigAt.below {w w' : World} {N : Nat} {v : Value} (h : BigAt w v N) (hb : Below w.heap.size w w') : BigAt w' v N := by
  obtain ⟨a, c, ds, e, h1, h2, h3⟩ := h
  exact ⟨a, c, ds, e, h1.below hb, h2, h3⟩
theorem BigAt.kept {O : Nat → Prop} {w w' : World} {N : Nat} {v : Value} (h : BigAt w v N) (hk : Kept O w w') (hO : ∀ k, v.ownBlock = some k → ¬ O k) : BigAt w' v N := by
  obtain ⟨a, c, ds, e, h1, h2, h3⟩ := h
  exact ⟨a, c, ds, e, h1.kept hk hO, h2, h3⟩
theorem Big.lt {w : World} {base N : Nat} {v : Value} (h : Big w base v N) : ∀ k, v.ownBlock = some k → base ≤ k ∧ k < w.heap.size := by
  obtain ⟨a, c, ds, e, h1, h2, h3⟩ := h
  exact World.ownsRow.lt h1
theorem len_of_val {ds : List UInt32} {m : Nat} (hn : Norm ds) (h : valU ds < B m) : ds.length ≤ m := by
  rcases Nat.lt_or_ge m ds.length with h1 | h1
  · have h2 := norm_ge hn (by omega)
    have h3 := B_mono (show m ≤ ds.length - 1 by omega)
    omega
  · exact h1
/-- A step that turned no block but the natural's own. -/
def Step (w w' : World) (v v' : Value) : Prop := Kept (fun k => v.ownBlock = some k) w w' ∧ ∀ k, v'.ownBlock = some k → v.ownBlock = some k ∨ w.heap.size ≤ k
theorem Step.refl (w : World) (v : Value) : Step w w v v := ⟨Kept.refl _ _, fun _ h => Or.inl h⟩
theorem Step.trans {w w1 w2 : World} {v v1 v2 : Value} (h : Step w w1 v v1) (k : Step w1 w2 v1 v2) : Step w w2 v v2 := by
  refine ⟨h.1.trans k.1 (fun i hi h9 => ?_), fun i hi => ?_⟩
  · rcases h.2 i h9 with h1 | h1
    · exact h1
    · omega
  · have hs := h.1.size
    rcases k.2 i hi with h1 | h1
    · exact h.2 i h1
    · exact Or.inr (by omega)

set_option maxRecDepth 100000 in
set_option maxHeartbeats 2000000 in
theorem grown_any (base : Nat) (v : Value) (N f more : Nat) (w : World) (h : Big w base v N) (hf : f < 4294967296) (hf1 : 1 ≤ f) (hm : more < 4294967296) (hN : N < B 1000) (hb : base ≤ w.heap.size) :
    Calls Tryz.prog 71 #[v, .int .u32 f, .int .u32 more] w fun e w' => ∃ v', e = .returned v' ∧ Big w' base v' (N * f + more) ∧ Step w w' v v' := by
  obtain ⟨a, c, ds, rfl, hrow, hval, hnorm⟩ := h
  have hlen := len_of_val hnorm (hval ▸ hN)
  subst hval
  clear hN
  have HROW : Hid (NRow w base (.slice a ds.length c) ds) := hrow
  have HNORM : Hid (Norm ds) := hnorm
  have hcap : ds.length ≤ c ∧ c ≤ 9223372036854775807 := by
    obtain ⟨a', c', e, hlc, -⟩ := hrow.at
    cases e
    unfold maxLen at hlc
    omega
  clear hrow hnorm
  obtain ⟨i0, hi0, hz0, hz1, hz2⟩ := info_parts infoU32
  go_enter Tryz.func71, Tryz.ntmps71
  go_wp2
  go_loopw [7, 14] (fun cy i wr => ∃ (k : Nat) (es : List UInt32) (x : Nat), k ≤ ds.length ∧ i = .int .i64 k ∧ cy = .int .u64 x ∧ x < 4294967296 ∧ Hid (es.length = k ∧ NRow wr base (.slice a ds.length c) (es ++ ds.drop k) ∧ valU es + B k * x = valU (ds.take k) * f + more ∧ Kept (fun k => (Value.slice a ds.length c).ownBlock = some k) w wr)) (fun _ i _ => ds.length - (intOf i).toNat)
  case atStart => exact ⟨0, [], more, Nat.zero_le _, rfl, rfl, hm, rfl, HROW.out, by simp [valU, B_zero], Kept.refl _ _⟩
  case round =>
    obtain ⟨k, es, x, hk, rfl, rfl, hx, hI⟩ := hrel
    obtain ⟨hel, hrow, heq, hkep⟩ := hI.out
    by_cases hlt : k < ds.length
    · have hll : (es ++ ds.drop k).length = ds.length := by simp; omega
      obtain ⟨d, hd⟩ : ∃ d, d = ds[k] := ⟨_, rfl⟩
      have hrow' : wr.ownsRow base 83 1 (.slice a ds.length c) ds.length (u32s (es ++ ds.drop k)) := by
        have h9 := hrow
        unfold NRow at h9
        rw [hll] at h9
        exact h9
      obtain ⟨g, rfl⟩ := row_some hrow' (by omega)
      have hdrop : ds.drop k = d :: ds.drop (k + 1) := by rw [hd, List.getElem_cons_drop]
      have hc0 : wr.cell? ⟨g, k, none⟩ = some (.int .u32 d.toNat) := by
        have h9 := hrow'.cells (g := g) rfl k (.int .u32 d.toNat) (by
          rw [hdrop]
          simp [u32s, hel])
        rw [Addr.add_lit, Nat.zero_add] at h9
        exact h9
      have hf0 := (row_cell hrow' (j := k) (by omega)).2
      have hdl : d.toNat < 4294967296 := d.toNat_lt
      have hprod : d.toNat * f ≤ 4294967295 * 4294967295 := Nat.mul_le_mul (by omega) (by omega)
      obtain ⟨p, hp⟩ : ∃ p, p = d.toNat * f := ⟨_, rfl⟩
      have hcast : (p : Int) = (d.toNat : Int) * (f : Int) := by rw [hp]; simp
      rw [← hp] at hprod
      have HST := carry_step es x p k _ hel heq
      have HROW2 : Hid (∀ u : Value, u = .int .u32 (UInt32.ofNat (x + p)).toNat → NRow (wr.setCell ⟨g, k, none⟩ u) base (.slice (some ⟨g, 0, none⟩) ds.length c) (es ++ [UInt32.ofNat (x + p)] ++ ds.drop (k + 1))) := fun u hu => by
        have h9 := ownsRow_set hrow' (g := g) rfl (i := k) u
        have hl2 : (es ++ [UInt32.ofNat (x + p)] ++ ds.drop (k + 1)).length = ds.length := by simp; omega
        unfold NRow
        rw [hl2]
        have e2 : (u32s (es ++ ds.drop k)).set k u = u32s (es ++ [UInt32.ofNat (x + p)] ++ ds.drop (k + 1)) := by
          rw [hdrop, hu, ← hel]
          exact set_word es d (UInt32.ofNat (x + p)) (ds.drop (es.length + 1))
        rw [e2] at h9
        exact h9
      have HK2 : Hid (∀ u, Kept (fun k => (Value.slice (some ⟨g, 0, none⟩) ds.length c).ownBlock = some k) w (wr.setCell ⟨g, k, none⟩ u)) := fun u => hkep.setCell (p := ⟨g, k, none⟩) (fun _ => rfl) u
      have HV : Hid (valU (es ++ [UInt32.ofNat (x + p)]) + B (k + 1) * ((x + p) / 4294967296) = valU (ds.take (k + 1)) * f + more) := by
        show _ = _
        rw [HST, List.take_succ_eq_append_getElem hlt, ← hd, valU_snoc, Nat.add_mul, hp]
        have : (ds.take k).length = k := by simp; omega
        rw [this, Nat.mul_assoc]
        omega
      have HL2 : Hid ((es ++ [UInt32.ofNat (x + p)]).length = k + 1) := by show _ = _; simp [hel]
      clear hI hrow hd HST hrow' hkep heq hel hdrop
      go_wp2
      go_roundw
      case rel =>
        simp only [← hcast]
        refine ⟨k + 1, es ++ [UInt32.ofNat (x + p)], (x + p) / 4294967296, by omega, by go_num, ?_, by omega, HL2.out, HROW2.out _ ?_, HV.out, HK2.out _⟩
        · congr 1
        · rw [UInt32.toNat_ofNat']
          congr 1
      case measure => simp [intOf]; omega
    · obtain rfl : k = ds.length := by omega
      rw [List.drop_length, List.append_nil] at hrow
      rw [List.take_length] at heq
      have HR2 : Hid (NRow wr base (.slice a ds.length c) es) := hrow
      have HV : Hid (valU es + B ds.length * x = valU ds * f + more) := heq
      have HK2 : Hid (Kept (fun k => (Value.slice a ds.length c).ownBlock = some k) w wr) := hkep
      have HEL : Hid (es.length = ds.length) := hel
      have hsz := hkep.size
      clear hI hrow heq hkep hel
      by_cases hx0 : x = 0
      · subst hx0
        go_wp2
        go_ret
        refine ⟨_, rfl, ⟨a, c, es, by rw [HEL.out]; rfl, HR2.out, by have := HV.out; simpa using this, norm_of_ge fun h0 => ?_⟩, HK2.out, fun _ h => Or.inl h⟩
        have h1 := HV.out
        have h2 := norm_ge HNORM.out (by have := HEL.out; omega)
        rw [HEL.out]
        have h3 : valU ds * 1 ≤ valU ds * f := Nat.mul_le_mul_left _ hf1
        simp at h1
        omega
      · have hrow2 : wr.ownsRow base 83 1 (.slice a ds.length c) ds.length (u32s es) := by
          have h9 := HR2.out
          unfold NRow at h9
          rw [HEL.out] at h9
          exact h9
        have HR3 : Hid _ := hrow2
        clear hrow2
        go_wp2_with (at_builtin; refine wpList_append_own_at _ rfl _ _ 115 rfl base 83 i0 _ 1 4 Tryz.underlying115 hi0 hz0 hz1 hz2 rfl (by decide) (.slice a ds.length c) ds.length (u32s es) rfl (World.ownsRow.alloc HR3.out _) ⟨wr.heap.size, 0, none⟩ 1 1 [.int .u32 x] rfl rfl (World.news_of_block (cs := #[.int .u32 x]) (t := 83) (fr := (0, 0)) (heap_alloc_new wr _)) (by simp [Value.oneCell']) (by unfold maxLen; omega) (by omega) (by simp; omega) ?_; intro v1 w1 hr1 hg1 hnil1 hloc1)
        go_ret
        obtain ⟨a1, c1, rfl⟩ := slice_of_row hr1
        have hxx : (UInt32.ofNat x).toNat = x := by rw [UInt32.toNat_ofNat']; exact Nat.mod_eq_of_lt hx
        have hl3 : (es ++ [UInt32.ofNat x]).length = ds.length + 1 := by simp [HEL.out]
        refine ⟨_, rfl, ⟨a1, c1, es ++ [UInt32.ofNat x], by rw [hl3]; rfl, ?_, ?_, ?_⟩, ?_, ?_⟩
        · unfold NRow
          rw [hl3, u32s_append]
          have : u32s [UInt32.ofNat x] = [.int .u32 x] := by simp [u32s, hxx]
          rw [this]
          exact hr1
        · rw [valU_snoc, hxx, HEL.out]
          exact HV.out
        · exact norm_snoc _ _ (fun e => hx0 (by rw [← hxx, e]; rfl))
        · exact (HK2.out.alloc _).grown hg1 (fun k _ e => e)
        · intro k hk
          rcases hloc1 with e | e
          · left
            rw [← e]
            exact hk
          · right
            have h9 : some wr.heap.size.succ = some k := by
              rw [← hk]
              have := e.symm
              simpa using this
            have := Option.some.inj h9
            omega

end Go.Proofs.YtdadagbkkaeejaaGreatDoor.Nu
