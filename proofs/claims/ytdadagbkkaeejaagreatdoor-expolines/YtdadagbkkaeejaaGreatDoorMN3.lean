/- Texts that belong together. -/
import Derived.Test.YtdadagbkkaeejaaGreatDoorN2
/- Naturals: sums, shifts, differences. -/
namespace Go.Proofs.YtdadagbkkaeejaaGreatDoor.Nu
open Go.RowKit Go.Maps

/-- append of one word. -/
theorem wpList_append_word (w : World) {ops : Array Oper} {rest : List Oper} {o : Oper} {a : Act} {Q : Exit → Act → World → Prop} (hgd : o.guard = none) (s x : Operand)
    (ho : o.op = .call { callee := .builtin .append, args := #[s, x], argTypes := #[115, 115] }) (base : Nat) (ao : Option Addr) (n co : Nat) (es : List UInt32) (hs : a.eval s = .slice ao n co) (hrow : w.ownsRow base 83 1 (.slice ao n co) n (u32s es))
    (g : Nat) (y : Int) (hy0 : 0 ≤ y) (hy : y < 4294967296) (hx : a.eval x = .slice (some ⟨g, 0, none⟩) 1 1) (hg : w.heap[g]? = some (.cells #[.int .u32 y] 83 (0, 0))) (hl : n ≤ 100000) (hbase : base ≤ w.heap.size)
    (h : ∀ a' c' w', w'.ownsRow base 83 1 (.slice a' (n + 1) c') (n + 1) (u32s (es ++ [UInt32.ofNat y.toNat])) → w.grownBy w' (Value.slice ao n co).ownBlock → (∀ k, (Value.slice a' (n + 1) c').ownBlock = some k → (Value.slice ao n co).ownBlock = some k ∨ w.heap.size ≤ k) → wpList Tryz.prog ops Q rest (a.put o.dst (.slice a' (n + 1) c')) w') : wpList Tryz.prog ops Q (o :: rest) a w := by
  obtain ⟨i0, hi0, hz0, hz1, hz2⟩ := info_parts infoU32
  refine wpList_append_own_at w hgd s x 115 ho base 83 i0 _ 1 4 Tryz.underlying115 hi0 hz0 hz1 hz2 rfl (by decide) (.slice ao n co) n (u32s es) hs hrow ⟨g, 0, none⟩ 1 1 [.int .u32 y] hx rfl (World.news_of_block (cs := #[.int .u32 y]) (t := 83) (fr := (0, 0)) hg) (by simp [Value.oneCell']) (by unfold maxLen; omega) (by omega) hbase ?_
  intro v1 w1 hr1 hg1 hnil1 hloc1
  obtain ⟨a1, c1, rfl⟩ := slice_of_row hr1
  refine h a1 c1 w1 ?_ hg1 (fun k hk => ?_)
  · have hxx : ((UInt32.ofNat y.toNat).toNat : Int) = y := by rw [UInt32.toNat_ofNat']; omega
    have : u32s (es ++ [UInt32.ofNat y.toNat]) = u32s es ++ [.int .u32 y] := by rw [u32s_append]; simp only [u32s, List.map_cons, List.map_nil, hxx]
    rw [this]
    exact hr1
  · rcases hloc1 with e | e
    · left; rw [← e]; exact hk
    · right
      rw [hk] at e
      have := Option.some.inj e
      omega
theorem ofNat_mod (n : Nat) : UInt32.ofNat (n % 4294967296) = UInt32.ofNat n := UInt32.toNat_inj.1 (by rw [UInt32.toNat_ofNat', UInt32.toNat_ofNat']; omega)
theorem word_at {w : World} {ds : List UInt32} {a : Option Addr} {c n : Nat} (h : NAt w (.slice a n c) ds) (k : Nat) (hk : k < ds.length) {w' : World} (hb : Below w.heap.size w w') : ∃ b o, a = some ⟨b, o, none⟩ ∧ w'.cell? ⟨b, o + k, none⟩ = some (.int .u32 ds[k].toNat) := by
  obtain ⟨b, o, e, hl, hc⟩ := h.one k hk
  exact ⟨b, o, e, (hb.cell (p := ⟨b, o + k, none⟩) hl).trans hc⟩
theorem take_val {ds : List UInt32} {k : Nat} (hk : k < ds.length) : valU (ds.take (k + 1)) = valU (ds.take k) + B k * ds[k].toNat := by
  rw [List.take_succ_eq_append_getElem hk, valU_snoc]
  have : (ds.take k).length = k := by simp; omega
  rw [this]

end Go.Proofs.YtdadagbkkaeejaaGreatDoor.Nu

/- Naturals: differences, shifts, lengths. -/
namespace Go.Proofs.YtdadagbkkaeejaaGreatDoor.Nu
open Go.RowKit Go.Maps

theorem wrapU (x : Int) : IntKind.u64.wrap x = x % 18446744073709551616 := by
  simp [IntKind.wrap, IntKind.bits, IntKind.signed]

set_option maxRecDepth 100000 in
set_option maxHeartbeats 2000000 in
theorem minus_any (base : Nat) (v u : Value) (N M : Nat) (w : World) (h : Big w base v N) (h2 : BigAt w u M) (hne : ∀ k, u.ownBlock = some k → ¬ v.ownBlock = some k) (hle : M ≤ N) (hN : N < B 1000) :
    Calls Tryz.prog 87 #[v, u] w fun e w' => ∃ v', e = .returned v' ∧ Big w' base v' (N - M) ∧ Step w w' v v' := by
  obtain ⟨a, c, ds, rfl, hrow, hval, hnorm⟩ := h
  obtain ⟨a2, c2, es, rfl, hat2, hv2, hn2⟩ := h2
  have hlen := len_of_val hnorm (hval ▸ hN)
  have hlen2 : es.length ≤ ds.length := by
    rcases Nat.lt_or_ge ds.length es.length with h9 | h9
    · have := cmp_len (a := ds) hn2 h9
      omega
    · exact h9
  subst hval hv2
  clear hN hn2 hnorm
  have HROW : Hid (NRow w base (.slice a ds.length c) ds) := hrow
  have HA2 : Hid (NAt w (.slice a2 es.length c2) es) := hat2
  have HNE : Hid (∀ k, (Value.slice a2 es.length c2).ownBlock = some k → ¬ (Value.slice a ds.length c).ownBlock = some k) := hne
  have hcap : ds.length ≤ c ∧ c ≤ 9223372036854775807 := by
    obtain ⟨a', c', e, hlc, -⟩ := hrow.at
    cases e
    unfold maxLen at hlc
    omega
  clear hrow hat2 hne
  go_enter Tryz.func87, Tryz.ntmps87
  go_wp2
  go_loopw [5, 11] (fun cy i wr => ∃ (k : Nat) (rs : List UInt32) (x : Nat), k ≤ ds.length ∧ i = .int .i64 k ∧ cy = .int .u64 x ∧ x ≤ 1 ∧ Hid (rs.length = k ∧ NRow wr base (.slice a ds.length c) (rs ++ ds.drop k) ∧ valU rs + valU (es.take k) = valU (ds.take k) + B k * x ∧ Kept (fun k => (Value.slice a ds.length c).ownBlock = some k) w wr)) (fun _ i _ => ds.length - (intOf i).toNat)
  case atStart => exact ⟨0, [], 0, Nat.zero_le _, rfl, rfl, by omega, rfl, HROW.out, by simp [valU], Kept.refl _ _⟩
  case round =>
    obtain ⟨k, rs, x, hk, rfl, rfl, hx, hI⟩ := hrel
    obtain ⟨hel, hrow, heq, hkep⟩ := hI.out
    by_cases hlt : k < ds.length
    · have hll : (rs ++ ds.drop k).length = ds.length := by simp; omega
      obtain ⟨d, hd⟩ : ∃ d, d = ds[k] := ⟨_, rfl⟩
      have hrow' : wr.ownsRow base 83 1 (.slice a ds.length c) ds.length (u32s (rs ++ ds.drop k)) := by
        have h9 := hrow
        unfold NRow at h9
        rw [hll] at h9
        exact h9
      have HA2' := HA2.out.kept hkep HNE.out
      obtain ⟨g, rfl⟩ := row_some hrow' (by omega)
      have hdrop : ds.drop k = d :: ds.drop (k + 1) := by rw [hd, List.getElem_cons_drop]
      have hc0 : wr.cell? ⟨g, k, none⟩ = some (.int .u32 d.toNat) := by
        have h9 := hrow'.cells (g := g) rfl k (.int .u32 d.toNat) (by
          rw [hdrop]
          simp [u32s, hel])
        rw [Addr.add_lit, Nat.zero_add] at h9
        exact h9
      have hf0 := (row_cell hrow' (j := k) (by omega)).2
      have hdl : d.toNat < 4294967296 := d.toNat_lt
      have hv1 := take_val hlt
      rw [← hd] at hv1
      have HK2 : Hid (∀ u, Kept (fun k => (Value.slice (some ⟨g, 0, none⟩) ds.length c).ownBlock = some k) w (wr.setCell ⟨g, k, none⟩ u)) := fun u => hkep.setCell (p := ⟨g, k, none⟩) (fun _ => rfl) u
      have HROW2 : Hid (∀ (q : UInt32) (u : Value), u = .int .u32 q.toNat → NRow (wr.setCell ⟨g, k, none⟩ u) base (.slice (some ⟨g, 0, none⟩) ds.length c) (rs ++ [q] ++ ds.drop (k + 1))) := fun q u hu => by
        have h9 := ownsRow_set hrow' (g := g) rfl (i := k) u
        have hl2 : (rs ++ [q] ++ ds.drop (k + 1)).length = ds.length := by simp; omega
        unfold NRow
        rw [hl2]
        have e2 : (u32s (rs ++ ds.drop k)).set k u = u32s (rs ++ [q] ++ ds.drop (k + 1)) := by
          rw [hdrop, hu, ← hel]
          exact set_word rs d q (ds.drop (rs.length + 1))
        rw [e2] at h9
        exact h9
      have HEL : Hid (∀ q : UInt32, (rs ++ [q]).length = k + 1) := fun q => by simp [hel]
      by_cases hle2 : k < es.length
      · obtain ⟨b2, o2, rfl, -, hc2⟩ := HA2'.one k hle2
        obtain ⟨y, hy⟩ : ∃ y, y = es[k].toNat := ⟨_, rfl⟩
        have hyl : y < 4294967296 := by rw [hy]; exact es[k].toNat_lt
        have hv2 := take_val hle2
        rw [← hy] at hc2 hv2
        have HV : Hid (∀ q b' : Nat, q < 4294967296 → d.toNat + 4294967296 * b' = q + x + y → valU (rs ++ [UInt32.ofNat q]) + valU (es.take (k + 1)) = valU (ds.take (k + 1)) + B (k + 1) * b') := fun q b' hq hd' => by
          rw [hv1, hv2]
          exact borrow_step rs x b' d.toNat y q k _ _ hel heq hq hd'
        clear hI hrow heq hkep hd hy hv1 hv2 hel hrow' hdrop HA2' hll
        generalize d.toNat = d at *
        go_wp2
        go_roundw
        case rel =>
          refine ⟨k + 1, rs ++ [UInt32.ofNat ((((d : Int) - x - y) % 4294967296).toNat)], if d < x + y then 1 else 0, by omega, by go_num, ?_, by split <;> omega, HEL.out _, HROW2.out _ _ ?_, HV.out _ _ (by omega) (by split <;> omega), HK2.out _⟩
          · simp only [wrapU]; congr 1; split <;> omega
          · simp only [wrapU]; congr 1; rw [UInt32.toNat_ofNat']; omega
        case measure => simp [intOf]; omega
      · have hv2 : es.take (k + 1) = es.take k := by rw [List.take_of_length_le (by omega), List.take_of_length_le (by omega)]
        have HV : Hid (∀ q b' : Nat, q < 4294967296 → d.toNat + 4294967296 * b' = q + x + 0 → valU (rs ++ [UInt32.ofNat q]) + valU (es.take (k + 1)) = valU (ds.take (k + 1)) + B (k + 1) * b') := fun q b' hq hd' => by
          have := borrow_step rs x b' d.toNat 0 q k _ _ hel heq hq hd'
          rw [hv1, hv2]
          simpa using this
        clear hI hrow heq hkep hd hv1 hv2 hel hrow' hdrop HA2' hll
        generalize d.toNat = d at *
        go_wp2
        go_roundw
        case rel =>
          refine ⟨k + 1, rs ++ [UInt32.ofNat ((((d : Int) - x) % 4294967296).toNat)], if d < x then 1 else 0, by omega, by go_num, ?_, by split <;> omega, HEL.out _, HROW2.out _ _ ?_, HV.out _ _ (by omega) (by split <;> omega), HK2.out _⟩
          · simp only [wrapU]; congr 1; split <;> omega
          · simp only [wrapU]; congr 1; rw [UInt32.toNat_ofNat']; omega
        case measure => simp [intOf]; omega
    · obtain rfl : k = ds.length := by omega
      rw [List.drop_length, List.append_nil] at hrow
      rw [List.take_length, List.take_of_length_le hlen2] at heq
      have hlt := valU_lt rs
      rw [hel] at hlt
      have hx0 : x = 0 := by
        rcases Nat.eq_zero_or_pos x with h9 | h9
        · exact h9
        · have : x = 1 := by omega
          subst this
          omega
      have HV : Hid (valU (trimU rs) = valU ds - valU es) := by
        show _ = _
        rw [valU_trim]
        subst hx0
        simp at heq
        omega
      have HR : Hid (NRow wr base (.slice a rs.length c) rs) := by rw [hel]; exact hrow
      have HK : Hid (Kept (fun k => (Value.slice a ds.length c).ownBlock = some k) w wr) := hkep
      have htr := trimmed_any a c rs wr HR.out.at
      rw [hel] at htr
      have HTR : Hid _ := trim_row HR.out
      clear hI hrow heq hkep hlt hx0 hel
      go_wp2_with (go_at_call 83; refine htr.mono ?_; clear htr; rintro e w4 ⟨rfl, hw4⟩; have hw4 := hw4.symm; subst hw4)
      go_ret
      refine ⟨_, rfl, ⟨_, _, _, rfl, HTR.out, HV.out, norm_trim _⟩, HK.out, fun k hk => ?_⟩
      left
      cases a with
      | none => cases hk
      | some ad => exact hk

end Go.Proofs.YtdadagbkkaeejaaGreatDoor.Nu
