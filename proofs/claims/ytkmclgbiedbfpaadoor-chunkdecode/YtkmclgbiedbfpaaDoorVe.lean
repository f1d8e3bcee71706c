/- The document's bits as bytes. -/
import Derived.Test.YtkmclgbiedbfpaaDoorVa
namespace Go.Proofs.YtkmclgbiedbfpaaDoor
open Go.RowKit Go.Maps

theorem byteOf_snoc (ds : List Bool) (b : Bool) : byteOf (ds ++ [b]) (ds.length / 8) = byteOf ds (ds.length / 8) ||| (bb b).toNat <<< (7 - ds.length % 8) := by
  have h := put_byte ds 1 b.toNat (ds.length % 8) rfl (by omega)
  have e1 : wb 1 b.toNat = [b] := by cases b <;> rfl
  have e2 : b.toNat % 2 ^ 1 = (bb b).toNat := by cases b <;> rfl
  rw [e1, e2, show 8 - ds.length % 8 - 1 = 7 - ds.length % 8 by omega] at h
  exact h
theorem pk_snoc (ds : List Bool) (b : Bool) : pk (ds ++ [b]) = pkN (ds.length / 8) ds ++ [UInt8.ofNat (byteOf ds (ds.length / 8) ||| (bb b).toNat <<< (7 - ds.length % 8))] := by
  unfold pk
  rw [show ((ds ++ [b]).length + 7) / 8 = ds.length / 8 + 1 by rw [List.length_append]; simp; omega, pkN_succ, pkN_app _ _ _ (by omega), byteOf_snoc]
theorem pack_val (x bv r : Nat) (hx : x < 256) (hb : bv ≤ 1) (hr : r ≤ 7) : bits .or .u8 (x : Int) ((bv : Int) * 2 ^ r % 256) = ((x ||| bv <<< r : Nat) : Int) := by
  have hp : 2 ^ r ≤ 2 ^ 7 := Nat.pow_le_pow_right (by decide) hr
  have h128 : (2 : Nat) ^ 7 = 128 := rfl
  have hlt : bv * 2 ^ r < 256 := by
    have h1 : bv * 2 ^ r ≤ 1 * 2 ^ r := Nat.mul_le_mul_right _ hb
    omega
  have e : (bv : Int) * 2 ^ r % 256 = ((bv <<< r : Nat) : Int) := by
    have h3 : (2 : Int) ^ r = ((2 ^ r : Nat) : Int) := by simp
    rw [Nat.shiftLeft_eq, h3, ← Int.natCast_mul]
    omega
  rw [e, u8_or_nat _ _ hx (by rw [Nat.shiftLeft_eq]; exact hlt)]

theorem pack_end {W : World} {base g q c2 bo bv r : Nat} {ds es : List Bool} (hbo : bo = byteOf ds q) (hlt : bo ||| bv <<< r < 256) (hr : W.ownsRow base 5 1 (.slice (some ⟨g, 0, none⟩) (q + 1) c2) (q + 1) (byteVals (pkN (q + 1) ds))) (he : pk es = pkN q ds ++ [UInt8.ofNat (byteOf ds q ||| bv <<< r)]) :
    (W.setCell ⟨g, q, none⟩ (.int .u8 ((bo ||| bv <<< r : Nat) : Int))).ownsRow base 5 1 (.slice (some ⟨g, 0, none⟩) (q + 1) c2) (pk es).length (byteVals (pk es)) := by
  subst hbo
  have h2 := ownsRow_set hr (g := g) rfl (i := q) (.int .u8 ((byteOf ds q ||| bv <<< r : Nat) : Int))
  have e1 : (pk es).length = q + 1 := by rw [he]; simp [pkN_length]
  have e2 : (byteVals (pkN (q + 1) ds)).set q (.int .u8 ((byteOf ds q ||| bv <<< r : Nat) : Int)) = byteVals (pk es) := by
    rw [he, pkN_succ]
    unfold byteVals
    rw [List.map_append, List.map_append, List.set_append_right _ _ (by simp [pkN_length])]
    simp only [List.length_map, pkN_length, Nat.sub_self, List.map_cons, List.map_nil, List.set_cons_zero, UInt8.toNat_ofNat']
    rw [Nat.mod_eq_of_lt hlt]
  rw [e1, ← e2]
  exact h2

set_option maxRecDepth 100000 in
set_option maxHeartbeats 4000000 in
theorem rpack_any (v : Value) (cs : List Bool) (w : World) (h : BytesAt w v (bitsU cs)) (hl : cs.length ≤ 1000000) :
    Calls Tryd.prog 29 #[v] w fun e w' => ∃ v', e = .returned v' ∧ w'.ownsRow w.heap.size 5 1 v' (pk cs).length (byteVals (pk cs)) ∧ Below w.heap.size w w' := by
  obtain ⟨a, c, rfl, -, -, -⟩ := id h
  rw [bitsU_length] at h ⊢
  have HS : Hid (BytesAt w (.slice a cs.length c) (bitsU cs)) := h
  clear h
  go_enter Tryd.func29, Tryd.ntmps29
  go_wp2
  go_loopw [3, 4] (fun vo i wr => ∃ k : Nat, k ≤ cs.length ∧ i = .int .i64 k ∧ Hid (wr.ownsRow w.heap.size 5 1 vo (pk (cs.take k)).length (byteVals (pk (cs.take k)))) ∧ Hid (Below w.heap.size w wr)) (fun _ i _ => cs.length - (intOf i).toNat)
  case atStart => exact ⟨0, Nat.zero_le _, rfl, by rw [List.take_zero]; exact ⟨rfl, Or.inl ⟨rfl, rfl⟩⟩, Below.refl _ _⟩
  case round =>
    obtain ⟨k, hk, rfl, hrow, hbl⟩ := hrel
    by_cases hlt : k < cs.length
    · have hbu : (bitsU cs)[k]'(by rw [bitsU_length]; exact hlt) = bb cs[k] := by simp [bitsU]
      obtain ⟨b, o, rfl, hone⟩ := HS.out.one k (by rw [bitsU_length]; exact hlt)
      rw [hbu] at hone
      have HONE : Hid (∀ W, Below w.heap.size w W → W.cell? ⟨b, o + k, none⟩ = some (.int .u8 (bb cs[k]).toNat)) := hone
      have hbw : b < w.heap.size := by
        obtain ⟨a', c', e, -, -, hc⟩ := HS.out
        obtain ⟨b', o', e', h1, -⟩ := hc k (by rw [bitsU_length]; exact hlt)
        have e2 := (Value.slice.inj e).1
        rw [e'] at e2
        cases e2
        exact h1
      have hbv : (bb cs[k]).toNat ≤ 1 := by cases cs[k] <;> decide
      have HPK : Hid (pk (cs.take (k + 1)) = pkN (k / 8) (cs.take k) ++ [UInt8.ofNat (byteOf (cs.take k) (k / 8) ||| (bb cs[k]).toNat <<< (7 - k % 8))]) := by
        show _ = _
        have hlk : (cs.take k).length = k := by simp; omega
        have := pk_snoc (cs.take k) cs[k]
        rw [hlk] at this
        rw [List.take_succ_eq_append_getElem hlt]
        exact this
      have hlk : (cs.take k).length = k := by simp; omega
      obtain ⟨a2, c2, rfl⟩ := slice_of_row hrow.out
      obtain ⟨q, hq⟩ : ∃ q, q = k / 8 := ⟨_, rfl⟩
      obtain ⟨r, hr⟩ : ∃ r, r = 7 - k % 8 := ⟨_, rfl⟩
      have hpl := pk_length (cs.take k)
      rw [hlk] at hpl
      have hbo := byteOf_lt (cs.take k) q
      have hkl : (k : Int) < (cs.length : Int) := by omega
      have hqi : (k : Int) / 8 = (q : Int) := by omega
      have hri : (7 : Int) - (k : Int) % 8 = (r : Int) := by omega
      have hr7 : r ≤ 7 := by omega
      have HPK2 : Hid (pk (cs.take (k + 1)) = pkN q (cs.take k) ++ [UInt8.ofNat (byteOf (cs.take k) q ||| (bb cs[k]).toNat <<< r)]) := by
        rw [hq, hr]
        exact HPK.out
      have hval := pack_val (byteOf (cs.take k) q) (bb cs[k]).toNat r hbo hbv hr7
      clear HPK hbu hone HS
      have HROW : Hid (wr.ownsRow w.heap.size 5 1 (.slice a2 (pk (cs.take k)).length c2) (pk (cs.take k)).length (byteVals (pk (cs.take k)))) := hrow
      by_cases h8 : k % 8 = 0
      · have hz : (k : Int) % 8 = 0 := by omega
        have hn : (pk (cs.take k)).length = q := by omega
        have hpk : pk (cs.take k) ++ [0] = pkN (q + 1) (cs.take k) := by
          rw [pk_whole _ (by rw [hlk]; exact h8), pkN_succ, hlk, ← hq]
          have := byteOf_end (cs.take k) (by rw [hlk]; exact h8)
          rw [hlk, ← hq] at this
          rw [this]
          rfl
        have HPK1 : Hid (byteVals (pk (cs.take k)) ++ byteVals [0] = byteVals (pkN (q + 1) (cs.take k))) := by rw [← hpk, byteVals_append]; exact rfl
        rw [hn] at HROW
        rw [hn]
        have hsz := hbl.out.size
        have hql : q ≤ 1000000 := by omega
        have HQ : Hid (q = k / 8) := hq
        have HR : Hid (r = 7 - k % 8) := hr
        obtain ⟨bo, hbo2⟩ : ∃ bo, bo = byteOf (cs.take k) q := ⟨_, rfl⟩
        have HBO : Hid (bo = byteOf (cs.take k) q) := hbo2
        rw [← hbo2] at hval hbo
        clear hq hr hpl hn hpk hlk hrow
        have HBB : Hid (∀ (W : World) (base g c3 : Nat), W.ownsRow base 5 1 (.slice (some ⟨g, 0, none⟩) (q + 1) c3) (q + 1) (byteVals (pkN (q + 1) (cs.take k))) → W.cell? ⟨g, q, none⟩ = some (.int .u8 bo)) := fun W base g c3 hW => by
          have h9 := hW.cells (g := g) rfl q (.int .u8 bo) (by
            unfold byteVals
            rw [pkN_succ, List.map_append, List.getElem?_append_right (by simp [pkN_length])]
            simp only [List.length_map, pkN_length, Nat.sub_self, List.map_cons, List.getElem?_cons_zero, UInt8.toNat_ofNat']
            rw [Nat.mod_eq_of_lt (byteOf_lt _ _), hbo2])
          rw [Addr.add_lit, Nat.zero_add] at h9
          exact h9
        clear hbo2
        generalize hbv2 : (bb cs[k]).toNat = bv at *
        clear hbv2
        obtain rfl : r = 7 := by omega
        have hval7 : bits .or .u8 (bo : Int) ((bv : Int) * 128) = ((bo ||| bv <<< 7 : Nat) : Int) := by
          rw [← hval, show (bv : Int) * 2 ^ 7 % 256 = (bv : Int) * 128 by omega]
        clear hval
        go_wp2_with (at_builtin; refine wpList_append_bytes _ rfl _ _ rfl w.heap.size (.slice a2 q c2) q (byteVals (pk (cs.take k))) rfl (World.ownsRow.alloc HROW.out _) _ [0] rfl (one_at (heap_alloc_new wr _) rfl) (show q + 1 ≤ _ by omega) (Nat.le_trans hsz (by simp)) ?_; intro v2 w2 hr2 hg2 hloc2; obtain ⟨a3, c3, rfl⟩ := slice_of_row hr2; obtain ⟨g, rfl⟩ := row_some hr2 (by simp); have hr3 : w2.ownsRow w.heap.size 5 1 (.slice (some ⟨g, 0, none⟩) (q + 1) c3) (q + 1) (byteVals (pkN (q + 1) (cs.take k))) := (by rw [← HPK1.out]; exact hr2); have hbl2 : Below w.heap.size w w2 := (hbl.out.alloc hsz _).grown hg2 (Nat.le_trans hsz (by simp)) (fun j hj => (World.ownsRow.lt HROW.out j hj).1); have k3 := HBB.out w2 _ g c3 hr3; have k4 : w2.frozen? ⟨g, q, none⟩ = false := (row_cell hr3 (j := q) (by omega)).2; have k5 := HONE.out w2 hbl2; have hgw : w.heap.size ≤ g := (World.ownsRow.lt hr3 g rfl).1; have hbg : b ≠ g := (by omega); have hgb : g ≠ b := hbg.symm; have HR3 : Hid (w2.ownsRow w.heap.size 5 1 (.slice (some ⟨g, 0, none⟩) (q + 1) c3) (q + 1) (byteVals (pkN (q + 1) (cs.take k)))) := hr3; have HBL2 : Hid (Below w.heap.size w w2) := hbl2; clear hr2 hg2 hloc2 hr3 hbl2)
        have hqn : (q : Int) < ((q + 1 : Nat) : Int) := by omega
        have hov : bo ||| bv <<< 7 < 256 := by
          have h1 : bv <<< 7 < 256 := by
            rw [Nat.shiftLeft_eq]
            have h2 : bv * 2 ^ 7 ≤ 1 * 2 ^ 7 := Nat.mul_le_mul_right _ hbv
            have h3 : 2 ^ 7 ≤ 2 ^ 7 := Nat.pow_le_pow_right (by decide) (Nat.le_refl 7)
            have h4 : (2 : Nat) ^ 7 = 128 := rfl
            omega
          exact Nat.or_lt_two_pow (n := 8) hbo h1
        have HOV : Hid (bo ||| bv <<< 7 < 256) := hov
        clear hov
        go_region
        go_wp2
        refine ⟨⟨k + 1, by omega, by go_num, ?_, ?_⟩, by simp [intOf]; omega⟩
        · exact pack_end HBO.out HOV.out (World.ownsRow.drew HR3.out) HPK2.out
        · exact HBL2.out.drew.setCell hgw _
      · have hz : ((k : Int) % 8 == 0) = false := by simp; omega
        have hn : (pk (cs.take k)).length = q + 1 := by omega
        have hpk : pk (cs.take k) = pkN (q + 1) (cs.take k) := by
          rw [pk_part _ (by rw [hlk]; exact h8), pkN_succ, hlk, ← hq]
        rw [hn, hpk] at HROW
        rw [hn]
        obtain ⟨g, hg⟩ := row_some HROW.out (by omega)
        subst hg
        have k3 : wr.cell? ⟨g, q, none⟩ = some (.int .u8 (byteOf (cs.take k) q)) := by
          have h9 := HROW.out.cells (g := g) rfl q (.int .u8 (byteOf (cs.take k) q)) (by
            unfold byteVals
            rw [pkN_succ, List.map_append, List.getElem?_append_right (by simp [pkN_length])]
            simp only [List.length_map, pkN_length, Nat.sub_self, List.map_cons, List.getElem?_cons_zero, UInt8.toNat_ofNat']
            rw [Nat.mod_eq_of_lt (byteOf_lt _ _)])
          rw [Addr.add_lit, Nat.zero_add] at h9
          exact h9
        have k4 : wr.frozen? ⟨g, q, none⟩ = false := (row_cell HROW.out (j := q) (by omega)).2
        have k5 := HONE.out wr hbl.out
        have hgw : w.heap.size ≤ g := (World.ownsRow.lt HROW.out g rfl).1
        have hbg : b ≠ g := by omega
        have hgb : g ≠ b := hbg.symm
        have hqn : (q : Int) < ((q + 1 : Nat) : Int) := by omega
        have HQ : Hid (q = k / 8) := hq
        have HR : Hid (r = 7 - k % 8) := hr
        clear hq hr hpl hn hpk hlk hrow
        obtain ⟨bo, hbo2⟩ : ∃ bo, bo = byteOf (cs.take k) q := ⟨_, rfl⟩
        have HBO : Hid (bo = byteOf (cs.take k) q) := hbo2
        rw [← hbo2] at k3 hval hbo
        clear hbo2
        generalize (bb cs[k]).toNat = bv at *
        have hov : bo ||| bv <<< r < 256 := by
          have h1 : bv <<< r < 256 := by
            rw [Nat.shiftLeft_eq]
            have h2 : bv * 2 ^ r ≤ 1 * 2 ^ r := Nat.mul_le_mul_right _ hbv
            have h3 : 2 ^ r ≤ 2 ^ 7 := Nat.pow_le_pow_right (by decide) hr7
            have h4 : (2 : Nat) ^ 7 = 128 := rfl
            omega
          exact Nat.or_lt_two_pow (n := 8) hbo h1
        have HOV : Hid (bo ||| bv <<< r < 256) := hov
        clear hov
        go_wp2
        go_region
        go_wp2
        refine ⟨⟨k + 1, by omega, by go_num, ?_, ?_⟩, by simp [intOf]; omega⟩
        · exact pack_end HBO.out HOV.out (World.ownsRow.drew HROW.out) HPK2.out
        · exact hbl.out.drew.setCell hgw _
    · obtain rfl : k = cs.length := by omega
      rw [List.take_length] at hrow
      have HR : Hid (wr.ownsRow w.heap.size 5 1 _ (pk cs).length (byteVals (pk cs))) := hrow
      go_wp2
      go_ret
      exact ⟨_, rfl, HR.out, hbl.out⟩

end Go.Proofs.YtkmclgbiedbfpaaDoor
