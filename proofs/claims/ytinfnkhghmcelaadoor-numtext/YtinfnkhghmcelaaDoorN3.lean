/- Naturals: sums, shifts, differences. -/
import Derived.Test.YtinfnkhghmcelaaDoorN2
namespace Go.Proofs.YtinfnkhghmcelaaDoor
open Go.RowKit Go.Maps

/-- append of one word. -/
theorem wpList_append_word (w : World) {ops : Array Oper} {rest : List Oper} {o : Oper} {a : Act} {Q : Exit → Act → World → Prop} (hgd : o.guard = none) (s x : Operand)
    (ho : o.op = .call { callee := .builtin .append, args := #[s, x], argTypes := #[66, 66] }) (base : Nat) (ao : Option Addr) (n co : Nat) (es : List UInt32) (hs : a.eval s = .slice ao n co) (hrow : w.ownsRow base 82 1 (.slice ao n co) n (u32s es))
    (g : Nat) (y : Int) (hy0 : 0 ≤ y) (hy : y < 4294967296) (hx : a.eval x = .slice (some ⟨g, 0, none⟩) 1 1) (hg : w.heap[g]? = some (.cells #[.int .u32 y] 82 (0, 0))) (hl : n ≤ 100000) (hbase : base ≤ w.heap.size)
    (h : ∀ a' c' w', w'.ownsRow base 82 1 (.slice a' (n + 1) c') (n + 1) (u32s (es ++ [UInt32.ofNat y.toNat])) → w.grownBy w' (Value.slice ao n co).ownBlock → (∀ k, (Value.slice a' (n + 1) c').ownBlock = some k → (Value.slice ao n co).ownBlock = some k ∨ w.heap.size ≤ k) → wpList Tryd.prog ops Q rest (a.put o.dst (.slice a' (n + 1) c')) w') : wpList Tryd.prog ops Q (o :: rest) a w := by
  obtain ⟨i0, hi0, hz0, hz1, hz2⟩ := info_parts infoU32
  refine wpList_append_own_at w hgd s x 66 ho base 82 i0 _ 1 4 Tryd.underlying66 hi0 hz0 hz1 hz2 rfl (by decide) (.slice ao n co) n (u32s es) hs hrow ⟨g, 0, none⟩ 1 1 [.int .u32 y] hx rfl (World.news_of_block (cs := #[.int .u32 y]) (t := 82) (fr := (0, 0)) hg) (by simp [Value.oneCell']) (by unfold maxLen; omega) (by omega) hbase ?_
  intro v1 w1 hr1 hg1 hnil1 hloc1
  obtain ⟨a1, c1, rfl⟩ := slice_of_row hr1
  refine h a1 c1 w1 ?_ hg1 (fun k hk => ?_)
  · have hxx : ((UInt32.ofNat y.toNat).toNat : Int) = y := by rw [UInt32.toNat_ofNat']; omega
    have : u32s (es ++ [UInt32.ofNat y.toNat]) = u32s es ++ [.int .u32 y] := by rw [u32s_append]; simp only [u32s, List.map_cons, List.map_nil, hxx]
    rw [this]
    exact hr1
  · rcases hloc1 with e | e
    · left; rw [← e]; exact hk
    · right
      rw [hk] at e
      have := Option.some.inj e
      omega
theorem ofNat_mod (n : Nat) : UInt32.ofNat (n % 4294967296) = UInt32.ofNat n := UInt32.toNat_inj.1 (by rw [UInt32.toNat_ofNat', UInt32.toNat_ofNat']; omega)
theorem word_at {w : World} {ds : List UInt32} {a : Option Addr} {c n : Nat} (h : NAt w (.slice a n c) ds) (k : Nat) (hk : k < ds.length) {w' : World} (hb : Below w.heap.size w w') : ∃ b o, a = some ⟨b, o, none⟩ ∧ w'.cell? ⟨b, o + k, none⟩ = some (.int .u32 ds[k].toNat) := by
  obtain ⟨b, o, e, hl, hc⟩ := h.one k hk
  exact ⟨b, o, e, (hb.cell (p := ⟨b, o + k, none⟩) hl).trans hc⟩
theorem take_val {ds : List UInt32} {k : Nat} (hk : k < ds.length) : valU (ds.take (k + 1)) = valU (ds.take k) + B k * ds[k].toNat := by
  rw [List.take_succ_eq_append_getElem hk, valU_snoc]
  have : (ds.take k).length = k := by simp; omega
  rw [this]

set_option maxRecDepth 100000 in
set_option maxHeartbeats 2000000 in
/-- The sum, the longer one first. -/
theorem plus_long (ds es : List UInt32) (a1 a2 : Option Addr) (c1 c2 : Nat) (w : World) (h1 : NAt w (.slice a1 ds.length c1) ds) (h2 : NAt w (.slice a2 es.length c2) es) (hle : es.length ≤ ds.length) (hl : ds.length ≤ 1000) :
    Calls Tryd.prog 66 #[.slice a1 ds.length c1, .slice a2 es.length c2] w fun e w' => ∃ v', e = .returned v' ∧ Big w' w.heap.size v' (valU ds + valU es) ∧ Below w.heap.size w w' := by
  have HA1 : Hid (NAt w (.slice a1 ds.length c1) ds) := h1
  have HA2 : Hid (NAt w (.slice a2 es.length c2) es) := h2
  clear h1 h2
  obtain ⟨i0, hi0, hz0, hz1, hz2⟩ := info_parts infoU32
  obtain ⟨W1, hmk, hown1, hgrow1⟩ := run_make_own (P := Tryd.prog) (w := w) w.heap.size 66 82 i0 _ 1 Tryd.underlying66 hi0 hz0 hz1 .i64 .i64 (ds.length + 1) (by rw [hz2]; omega) (by unfold maxLen; omega) (Nat.le_refl _)
  have hcst : ((ds.length + 1 : Nat) : Int) = (ds.length : Int) + 1 := by omega
  rw [hcst] at hmk
  have hb1 : Below w.heap.size w W1 := (Below.refl _ _).grown hgrow1 (Nat.le_refl _) (fun j hj => by cases hj)
  have HROW : Hid (W1.ownsRow w.heap.size 82 1 (.slice (some ⟨w.heap.size, 0, none⟩) 0 (ds.length + 1)) 0 (u32s [])) := hown1
  have HB1 : Hid (Below w.heap.size w W1) := hb1
  clear hown1 hgrow1 hb1 hcst hz0 hz1 hz2 hi0
  go_enter Tryd.func66, Tryd.ntmps66
  have hdec : decide (ds.length < es.length) = false := by simp; omega
  go_wp2
  try rw [hdec]
  clear hdec
  go_loopw [5, 6, 22] (fun s cy i wr => ∃ (k : Nat) (rs : List UInt32) (x : Nat) (ao : Option Addr) (co : Nat), k ≤ ds.length ∧ i = .int .i64 k ∧ cy = .int .u64 x ∧ x ≤ 1 ∧ s = .slice ao k co ∧ Hid (rs.length = k ∧ wr.ownsRow w.heap.size 82 1 (.slice ao k co) k (u32s rs) ∧ valU rs + B k * x = valU (ds.take k) + valU (es.take k) ∧ Below w.heap.size w wr)) (fun _ _ i _ => ds.length - (intOf i).toNat)
  case atStart => exact ⟨0, [], 0, _, _, Nat.zero_le _, rfl, rfl, by omega, rfl, rfl, HROW.out, by simp [valU, B_zero], HB1.out⟩
  case round =>
    obtain ⟨k, rs, x, ao, co, hk, rfl, rfl, hx, rfl, hI⟩ := hrel
    obtain ⟨hrl, hrow, heq, hbl⟩ := hI.out
    have HR : Hid (wr.ownsRow w.heap.size 82 1 (.slice ao k co) k (u32s rs)) := hrow
    have HBL : Hid (Below w.heap.size w wr) := hbl
    have hsz := hbl.size
    by_cases hlt : k < ds.length
    · obtain ⟨b1, o1, rfl, hc1⟩ := word_at HA1.out k hlt hbl
      obtain ⟨d, hd⟩ : ∃ d, d = ds[k].toNat := ⟨_, rfl⟩
      have hdl : d < 4294967296 := by rw [hd]; exact ds[k].toNat_lt
      have hv1 := take_val hlt
      rw [← hd] at hc1 hv1
      by_cases hle2 : k < es.length
      · obtain ⟨b2, o2, rfl, hc2⟩ := word_at HA2.out k hle2 hbl
        obtain ⟨y, hy⟩ : ∃ y, y = es[k].toNat := ⟨_, rfl⟩
        have hyl : y < 4294967296 := by rw [hy]; exact es[k].toNat_lt
        have hv2 := take_val hle2
        rw [← hy] at hc2 hv2
        have HV : Hid (valU (rs ++ [UInt32.ofNat (x + (d + y))]) + B (k + 1) * ((x + (d + y)) / 4294967296) = valU (ds.take (k + 1)) + valU (es.take (k + 1))) := by
          show _ = _
          rw [carry_step rs x (d + y) k _ hrl heq, hv1, hv2, Nat.mul_add]
          omega
        have HL : Hid ((rs ++ [UInt32.ofNat (x + (d + y))]).length = k + 1) := by show _ = _; simp [hrl]
        clear hI hrow heq hbl hd hy hv1 hv2 hrl
        go_wp2_with (at_builtin; refine wpList_append_word _ rfl _ _ rfl w.heap.size ao k co rs rfl (World.ownsRow.alloc HR.out _) wr.heap.size (((x : Int) + d + y) % 4294967296) (by omega) (by omega) rfl (heap_alloc_new wr _) (by omega) (by simp; omega) ?_; intro a3 c3 w3 hr3 hg3 hloc3)
        go_roundw
        case rel =>
          have e1 : (((x : Int) + d + y) % 4294967296).toNat = (x + (d + y)) % 4294967296 := by omega
          rw [e1, ofNat_mod] at hr3
          refine ⟨k + 1, rs ++ [UInt32.ofNat (x + (d + y))], (x + (d + y)) / 4294967296, a3, c3, by omega, by go_num, by first | (congr 1; omega) | congr 1, by omega, rfl, HL.out, hr3, HV.out, ?_⟩
          exact (HBL.out.alloc hsz _).grown hg3 (by simp; omega) (fun j hj => (HR.out.lt j hj).1)
        case measure => simp [intOf]; omega
      · have hv2 : es.take (k + 1) = es.take k := by rw [List.take_of_length_le (by omega), List.take_of_length_le (by omega)]
        have HV : Hid (valU (rs ++ [UInt32.ofNat (x + d)]) + B (k + 1) * ((x + d) / 4294967296) = valU (ds.take (k + 1)) + valU (es.take (k + 1))) := by
          show _ = _
          rw [carry_step rs x d k _ hrl heq, hv1, hv2]
          omega
        have HL : Hid ((rs ++ [UInt32.ofNat (x + d)]).length = k + 1) := by show _ = _; simp [hrl]
        clear hI hrow heq hbl hd hv1 hv2 hrl
        go_wp2_with (at_builtin; refine wpList_append_word _ rfl _ _ rfl w.heap.size ao k co rs rfl (World.ownsRow.alloc HR.out _) wr.heap.size (((x : Int) + d) % 4294967296) (by omega) (by omega) rfl (heap_alloc_new wr _) (by omega) (by simp; omega) ?_; intro a3 c3 w3 hr3 hg3 hloc3)
        go_roundw
        case rel =>
          have e1 : (((x : Int) + d) % 4294967296).toNat = (x + d) % 4294967296 := by omega
          rw [e1, ofNat_mod] at hr3
          refine ⟨k + 1, rs ++ [UInt32.ofNat (x + d)], (x + d) / 4294967296, a3, c3, by omega, by go_num, by first | (congr 1; omega) | congr 1, by omega, rfl, HL.out, hr3, HV.out, ?_⟩
          exact (HBL.out.alloc hsz _).grown hg3 (by simp; omega) (fun j hj => (HR.out.lt j hj).1)
        case measure => simp [intOf]; omega
    · obtain rfl : k = ds.length := by omega
      rw [List.take_length, List.take_of_length_le (show es.length ≤ ds.length by omega)] at heq
      have HV : Hid (valU (trimU (rs ++ [UInt32.ofNat x])) = valU ds + valU es) := by
        show _ = _
        rw [valU_trim, valU_snoc, hrl, UInt32.toNat_ofNat', Nat.mod_eq_of_lt (show x < 2 ^ 32 by omega)]
        exact heq
      have HL : Hid ((rs ++ [UInt32.ofNat x]).length = ds.length + 1) := by show _ = _; simp [hrl]
      clear hI hrow heq hbl hrl
      go_wp2_with (first
        | (at_builtin; refine wpList_append_word _ rfl _ _ rfl w.heap.size ao ds.length co rs rfl (World.ownsRow.alloc HR.out _) wr.heap.size (x : Int) (by omega) (by omega) rfl (heap_alloc_new wr _) (by omega) (by simp; omega) ?_; intro a3 c3 w3 hr3 hg3 hloc3; rw [Int.toNat_natCast] at hr3; have HB3 : Hid (Below w.heap.size w w3) := (HBL.out.alloc hsz _).grown hg3 (by simp; omega) (fun j hj => (HR.out.lt j hj).1); have HR3 : Hid (NRow w3 w.heap.size (.slice a3 (rs ++ [UInt32.ofNat x]).length c3) (rs ++ [UInt32.ofNat x])) := (by have h9 := hr3; unfold NRow; rw [HL.out]; exact h9); have htr := trimmed_any a3 c3 (rs ++ [UInt32.ofNat x]) w3 HR3.out.at; rw [HL.out] at htr; clear hr3 hg3)
        | (go_at_call 74; refine htr.mono ?_; clear htr; rintro e w4 ⟨rfl, hw4⟩; have hw4 := hw4.symm; subst hw4))
      go_ret
      exact ⟨_, rfl, ⟨_, _, _, rfl, trim_row HR3.out, HV.out, norm_trim _⟩, HB3.out⟩

set_option maxRecDepth 100000 in
set_option maxHeartbeats 2000000 in
/-- The sum, the shorter one first. -/
theorem plus_short (ds es : List UInt32) (a1 a2 : Option Addr) (c1 c2 : Nat) (w : World) (h1 : NAt w (.slice a1 ds.length c1) ds) (h2 : NAt w (.slice a2 es.length c2) es) (hle : es.length < ds.length) (hl : ds.length ≤ 1000) :
    Calls Tryd.prog 66 #[.slice a2 es.length c2, .slice a1 ds.length c1] w fun e w' => ∃ v', e = .returned v' ∧ Big w' w.heap.size v' (valU ds + valU es) ∧ Below w.heap.size w w' := by
  have HA1 : Hid (NAt w (.slice a1 ds.length c1) ds) := h1
  have HA2 : Hid (NAt w (.slice a2 es.length c2) es) := h2
  clear h1 h2
  obtain ⟨i0, hi0, hz0, hz1, hz2⟩ := info_parts infoU32
  obtain ⟨W1, hmk, hown1, hgrow1⟩ := run_make_own (P := Tryd.prog) (w := w) w.heap.size 66 82 i0 _ 1 Tryd.underlying66 hi0 hz0 hz1 .i64 .i64 (ds.length + 1) (by rw [hz2]; omega) (by unfold maxLen; omega) (Nat.le_refl _)
  have hcst : ((ds.length + 1 : Nat) : Int) = (ds.length : Int) + 1 := by omega
  rw [hcst] at hmk
  have hb1 : Below w.heap.size w W1 := (Below.refl _ _).grown hgrow1 (Nat.le_refl _) (fun j hj => by cases hj)
  have HROW : Hid (W1.ownsRow w.heap.size 82 1 (.slice (some ⟨w.heap.size, 0, none⟩) 0 (ds.length + 1)) 0 (u32s [])) := hown1
  have HB1 : Hid (Below w.heap.size w W1) := hb1
  clear hown1 hgrow1 hb1 hcst hz0 hz1 hz2 hi0
  go_enter Tryd.func66, Tryd.ntmps66
  have hdec : decide (es.length < ds.length) = true := by simp; omega
  go_wp2
  try rw [hdec]
  clear hdec
  go_loopw [5, 6, 22] (fun s cy i wr => ∃ (k : Nat) (rs : List UInt32) (x : Nat) (ao : Option Addr) (co : Nat), k ≤ ds.length ∧ i = .int .i64 k ∧ cy = .int .u64 x ∧ x ≤ 1 ∧ s = .slice ao k co ∧ Hid (rs.length = k ∧ wr.ownsRow w.heap.size 82 1 (.slice ao k co) k (u32s rs) ∧ valU rs + B k * x = valU (ds.take k) + valU (es.take k) ∧ Below w.heap.size w wr)) (fun _ _ i _ => ds.length - (intOf i).toNat)
  case atStart => exact ⟨0, [], 0, _, _, Nat.zero_le _, rfl, rfl, by omega, rfl, rfl, HROW.out, by simp [valU, B_zero], HB1.out⟩
  case round =>
    obtain ⟨k, rs, x, ao, co, hk, rfl, rfl, hx, rfl, hI⟩ := hrel
    obtain ⟨hrl, hrow, heq, hbl⟩ := hI.out
    have HR : Hid (wr.ownsRow w.heap.size 82 1 (.slice ao k co) k (u32s rs)) := hrow
    have HBL : Hid (Below w.heap.size w wr) := hbl
    have hsz := hbl.size
    by_cases hlt : k < ds.length
    · obtain ⟨b1, o1, rfl, hc1⟩ := word_at HA1.out k hlt hbl
      obtain ⟨d, hd⟩ : ∃ d, d = ds[k].toNat := ⟨_, rfl⟩
      have hdl : d < 4294967296 := by rw [hd]; exact ds[k].toNat_lt
      have hv1 := take_val hlt
      rw [← hd] at hc1 hv1
      by_cases hle2 : k < es.length
      · obtain ⟨b2, o2, rfl, hc2⟩ := word_at HA2.out k hle2 hbl
        obtain ⟨y, hy⟩ : ∃ y, y = es[k].toNat := ⟨_, rfl⟩
        have hyl : y < 4294967296 := by rw [hy]; exact es[k].toNat_lt
        have hv2 := take_val hle2
        rw [← hy] at hc2 hv2
        have HV : Hid (valU (rs ++ [UInt32.ofNat (x + (d + y))]) + B (k + 1) * ((x + (d + y)) / 4294967296) = valU (ds.take (k + 1)) + valU (es.take (k + 1))) := by
          show _ = _
          rw [carry_step rs x (d + y) k _ hrl heq, hv1, hv2, Nat.mul_add]
          omega
        have HL : Hid ((rs ++ [UInt32.ofNat (x + (d + y))]).length = k + 1) := by show _ = _; simp [hrl]
        clear hI hrow heq hbl hd hy hv1 hv2 hrl
        go_wp2_with (at_builtin; refine wpList_append_word _ rfl _ _ rfl w.heap.size ao k co rs rfl (World.ownsRow.alloc HR.out _) wr.heap.size (((x : Int) + d + y) % 4294967296) (by omega) (by omega) rfl (heap_alloc_new wr _) (by omega) (by simp; omega) ?_; intro a3 c3 w3 hr3 hg3 hloc3)
        go_roundw
        case rel =>
          have e1 : (((x : Int) + d + y) % 4294967296).toNat = (x + (d + y)) % 4294967296 := by omega
          rw [e1, ofNat_mod] at hr3
          refine ⟨k + 1, rs ++ [UInt32.ofNat (x + (d + y))], (x + (d + y)) / 4294967296, a3, c3, by omega, by go_num, by first | (congr 1; omega) | congr 1, by omega, rfl, HL.out, hr3, HV.out, ?_⟩
          exact (HBL.out.alloc hsz _).grown hg3 (by simp; omega) (fun j hj => (HR.out.lt j hj).1)
        case measure => simp [intOf]; omega
      · have hv2 : es.take (k + 1) = es.take k := by rw [List.take_of_length_le (by omega), List.take_of_length_le (by omega)]
        have HV : Hid (valU (rs ++ [UInt32.ofNat (x + d)]) + B (k + 1) * ((x + d) / 4294967296) = valU (ds.take (k + 1)) + valU (es.take (k + 1))) := by
          show _ = _
          rw [carry_step rs x d k _ hrl heq, hv1, hv2]
          omega
        have HL : Hid ((rs ++ [UInt32.ofNat (x + d)]).length = k + 1) := by show _ = _; simp [hrl]
        clear hI hrow heq hbl hd hv1 hv2 hrl
        go_wp2_with (at_builtin; refine wpList_append_word _ rfl _ _ rfl w.heap.size ao k co rs rfl (World.ownsRow.alloc HR.out _) wr.heap.size (((x : Int) + d) % 4294967296) (by omega) (by omega) rfl (heap_alloc_new wr _) (by omega) (by simp; omega) ?_; intro a3 c3 w3 hr3 hg3 hloc3)
        go_roundw
        case rel =>
          have e1 : (((x : Int) + d) % 4294967296).toNat = (x + d) % 4294967296 := by omega
          rw [e1, ofNat_mod] at hr3
          refine ⟨k + 1, rs ++ [UInt32.ofNat (x + d)], (x + d) / 4294967296, a3, c3, by omega, by go_num, by first | (congr 1; omega) | congr 1, by omega, rfl, HL.out, hr3, HV.out, ?_⟩
          exact (HBL.out.alloc hsz _).grown hg3 (by simp; omega) (fun j hj => (HR.out.lt j hj).1)
        case measure => simp [intOf]; omega
    · obtain rfl : k = ds.length := by omega
      rw [List.take_length, List.take_of_length_le (show es.length ≤ ds.length by omega)] at heq
      have HV : Hid (valU (trimU (rs ++ [UInt32.ofNat x])) = valU ds + valU es) := by
        show _ = _
        rw [valU_trim, valU_snoc, hrl, UInt32.toNat_ofNat', Nat.mod_eq_of_lt (show x < 2 ^ 32 by omega)]
        exact heq
      have HL : Hid ((rs ++ [UInt32.ofNat x]).length = ds.length + 1) := by show _ = _; simp [hrl]
      clear hI hrow heq hbl hrl
      go_wp2_with (first
        | (at_builtin; refine wpList_append_word _ rfl _ _ rfl w.heap.size ao ds.length co rs rfl (World.ownsRow.alloc HR.out _) wr.heap.size (x : Int) (by omega) (by omega) rfl (heap_alloc_new wr _) (by omega) (by simp; omega) ?_; intro a3 c3 w3 hr3 hg3 hloc3; rw [Int.toNat_natCast] at hr3; have HB3 : Hid (Below w.heap.size w w3) := (HBL.out.alloc hsz _).grown hg3 (by simp; omega) (fun j hj => (HR.out.lt j hj).1); have HR3 : Hid (NRow w3 w.heap.size (.slice a3 (rs ++ [UInt32.ofNat x]).length c3) (rs ++ [UInt32.ofNat x])) := (by have h9 := hr3; unfold NRow; rw [HL.out]; exact h9); have htr := trimmed_any a3 c3 (rs ++ [UInt32.ofNat x]) w3 HR3.out.at; rw [HL.out] at htr; clear hr3 hg3)
        | (go_at_call 74; refine htr.mono ?_; clear htr; rintro e w4 ⟨rfl, hw4⟩; have hw4 := hw4.symm; subst hw4))
      go_ret
      exact ⟨_, rfl, ⟨_, _, _, rfl, trim_row HR3.out, HV.out, norm_trim _⟩, HB3.out⟩

theorem plus_any (v u : Value) (N M : Nat) (w : World) (h1 : BigAt w v N) (h2 : BigAt w u M) (hN : N < B 1000) (hM : M < B 1000) :
    Calls Tryd.prog 66 #[v, u] w fun e w' => ∃ v', e = .returned v' ∧ Big w' w.heap.size v' (N + M) ∧ Below w.heap.size w w' := by
  obtain ⟨a, c, ds, rfl, hat1, hv1, hn1⟩ := h1
  obtain ⟨a2, c2, es, rfl, hat2, hv2, hn2⟩ := h2
  have hl1 := len_of_val hn1 (hv1 ▸ hN)
  have hl2 := len_of_val hn2 (hv2 ▸ hM)
  rcases Nat.lt_or_ge ds.length es.length with h9 | h9
  · have := plus_short es ds a2 a c2 c w hat2 hat1 h9 hl2
    rw [hv1, hv2, Nat.add_comm] at this
    exact this
  · have := plus_long ds es a a2 c c2 w hat1 hat2 h9 hl1
    rw [hv1, hv2] at this
    exact this

end Go.Proofs.YtinfnkhghmcelaaDoor
