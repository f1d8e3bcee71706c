/- DiskKeeps, walked. -/
import Derived.Test.YtihoccaaecmcfaaWi
namespace Go.Proofs.Ytihoccaaecmcfaa
open Go.RowKit Go.Maps Go.Sort
open Go.WideMaps Go.WideElems

/-- append of a slice of bytes, nil or not, onto a slice of the call's own. -/
theorem wpList_append_bytes (w : World) {ops : Array Oper} {rest : List Oper} {o : Oper} {a : Act} {Q : Exit → Act → World → Prop} (hgd : o.guard = none) (s x : Operand)
    (ho : o.op = .call { callee := .builtin .append, args := #[s, x], argTypes := #[31, 31] }) (base : Nat) (v : Value) (n : Nat) (xs : List Value) (hs : a.eval s = v) (hown : w.ownsRow base 5 1 v n xs)
    (xv : Value) (nw : List UInt8) (hx : a.eval x = xv) (hb : BytesAt w xv nw) (hl : n + nw.length ≤ 1000000000) (hbase : base ≤ w.heap.size)
    (h : ∀ v' w', w'.ownsRow base 5 1 v' (n + nw.length) (xs ++ byteVals nw) → w.grownBy w' v.ownBlock → wpList Try.prog ops Q rest (a.put o.dst v') w') : wpList Try.prog ops Q (o :: rest) a w := by
  obtain ⟨i0, hi0, hz0, hz1, hz2⟩ := info_parts info5
  rcases hb with ⟨rfl, rfl⟩ | ⟨ad, c, rfl, _, _, hcell⟩
  · exact wpList_append_own_none hgd s x 31 ho base 5 i0 1 Try.underlying31 hi0 v n xs hs hown hx (h v w (by simpa [byteVals] using hown) ⟨rfl, rfl, rfl, Nat.le_refl _, fun _ _ _ => rfl⟩)
  · exact wpList_append_own w hgd s x 31 ho base 5 i0 (.int .u8 0) 1 1 Try.underlying31 hi0 hz0 hz1 hz2 rfl (by decide) v n xs hs hown ad nw.length c (byteVals nw) hx (by rw [byteVals_length]; omega) hcell (byteVals_one nw) (by unfold maxLen; omega) (by omega) hbase (fun v' w' h1 h2 _ => h v' w' h1 h2)

set_option maxRecDepth 100000 in
set_option maxHeartbeats 2000000 in
theorem keeps_walk00 (aa ab : Option Addr) (ac bc : Nat) (cv : Value) (a b : List UInt8) (cs : List Int) (w : World) (ha : BytesAt w (.slice aa a.length ac) a) (hb : BytesAt w (.slice ab b.length bc) b) (hc : CutsAt w cv cs)
    (hla : ∀ k, (Value.slice aa a.length ac).ownBlock = some k → a ≠ [] → k < w.heap.size) (hlb : ∀ k, (Value.slice ab b.length bc).ownBlock = some k → b ≠ [] → k < w.heap.size) (hlc : ∀ k o l c, cv = .slice (some ⟨k, o, none⟩) l c → cs ≠ [] → k < w.heap.size)
    (hal : a.length ≤ 1000) (hbl : b.length ≤ 1000) :
    Calls Try.prog 4 #[.slice aa a.length ac, .slice ab b.length bc, cv] w fun e w' => e = .returned (.bool true) ∧ Below w.heap.size w w' := by
  have HA : Hid (BytesAt w (.slice aa a.length ac) a) := ha
  have HB : Hid (BytesAt w (.slice ab b.length bc) b) := hb
  have HC : Hid (CutsAt w cv cs) := hc
  have HLA : Hid (∀ k, (Value.slice aa a.length ac).ownBlock = some k → a ≠ [] → k < w.heap.size) := hla
  have HLB : Hid (∀ k, (Value.slice ab b.length bc).ownBlock = some k → b ≠ [] → k < w.heap.size) := hlb
  have HLC : Hid (∀ k o l c, cv = .slice (some ⟨k, o, none⟩) l c → cs ≠ [] → k < w.heap.size) := hlc
  have HCB : Hid (∀ w', Below w.heap.size w w' → CutsAt w' cv cs) := fun w' hb' => hc.kept ((Kept.refl (fun _ => False) w).below hb') (fun _ _ _ _ _ _ e => e)
  have HP : Hid (∀ m, a.length ≤ m → a <+: (a ++ b).take m ∧ (a ++ b).take m <+: a ++ b) := fun m hm => ⟨by
    rw [List.take_append, List.take_of_length_le hm]
    exact List.prefix_append _ _, List.take_prefix _ _⟩
  have HY : Hid (∀ w9 w10 : World, Below w.heap.size w w9 → (w9.alloc (.cells #[] 5)).grownBy w10 (Value.slice (some ⟨w9.heap.size, 0, none⟩) 0 0).ownBlock → Below w.heap.size w w10) := fun w9 w10 h9 hg =>
    (h9.alloc h9.size _).grown hg (by have := h9.size; simp; omega) (fun k hk => by simp [Value.ownBlock] at hk; have := h9.size; omega)
  have HX : Hid (∀ (w9 w10 w11 : World) (v9 v10 v11 : Value) (c : List UInt8) {b8 : Nat}, Below w.heap.size w w9 → w9.ownsRow b8 5 1 v9 c.length (byteVals c) → w10.ownsRow w9.heap.size 5 1 v10 (0 + a.length) ([] ++ byteVals a) → (w9.alloc (.cells #[] 5)).grownBy w10 (Value.slice (some ⟨w9.heap.size, 0, none⟩) 0 0).ownBlock →
      w11.ownsRow w9.heap.size 5 1 v11 (0 + a.length + b.length) ([] ++ byteVals a ++ byteVals b) → w10.grownBy w11 v10.ownBlock → Below w9.heap.size w9 w11 ∧ Below w.heap.size w w11 ∧ BytesAt w11 v9 c ∧ BytesAt w11 v11 (a ++ b)) := fun w9 w10 w11 v9 v10 v11 c b8 h9 hr9 hr10 hg10 hr11 hg11 => by
    have hs10 := hg10.size
    simp at hs10
    have b1 : Below w9.heap.size w9 w10 := ((Below.refl _ w9).alloc (Nat.le_refl _) (.cells #[] 5)).grown hg10 (by simp) (fun k hk => by simp [Value.ownBlock] at hk; omega)
    have b2 : Below w9.heap.size w9 w11 := b1.grown hg11 (by omega) (fun k hk => (hr10.lt k hk).1)
    refine ⟨b2, h9.trans (b2.mono h9.size), (BytesAt.of_row hr9).below b2, BytesAt.of_row (base := w9.heap.size) ?_⟩
    have e : (a ++ b).length = 0 + a.length + b.length := by simp
    rw [e, byteVals_append]
    exact hr11
  clear ha hb hc hla hlb hlc
  go_enter Try.func4, Try.ntmps4
  go_wp2_with (first
    | (go_at_call 8; refine (new_any 4000 _).mono ?_; rintro e w1 ⟨rfl, hI1, hb1⟩)
    | (go_at_call_of 14 (Value.string ⟨#[102]⟩); refine (k_create w w1 hb1 w.heap.size (Nat.le_refl _) hI1).mono ?_; rintro e w2 ⟨rfl, f, pv, h2⟩)
    | (go_at_call_of 15 (Value.slice aa a.length ac); refine (k_append1 w w2 _ f pv h2 _ a (HA.out.below h2.bel) HLA.out hal).mono ?_; rintro e w3 ⟨rfl, v, h3⟩)
    | (go_at_call 16; refine (k_sync w w3 _ f pv v a _ h3).mono ?_; rintro e w4 ⟨rfl, h4⟩)
    | (go_at_call 17; refine (k_syncDir w w4 _ f pv v a _ h4).mono ?_; rintro e w5 ⟨rfl, h5⟩)
    | (go_at_call_of 15 (Value.slice ab b.length bc); refine (k_append2 w w5 _ f v a h5 _ b (HB.out.below h5.bel) HLB.out hal hbl).mono ?_; rintro e w6 ⟨rfl, v6, h6⟩)
    | (go_at_call_of 14 (Value.string ⟨#[103]⟩); refine (k_create2 w w6 _ f _ _ h6).mono ?_; rintro e w7 ⟨rfl, g, pv7, hgf, h7, hg7, hgl⟩)
    | (go_at_call 18; refine (k_crash w w7 _ f g pv7 v6 a b _ hgf h7 hg7 hgl (by simp; omega) cv cs (HCB.out w7 h7.bel) HLC.out).mono ?_; rintro e w8 ⟨rfl, s8, v8, m, dur8, hI8, hat8, hf8, hm1, hm2, hb8⟩)
    | (go_at_call 19; refine (read_ok hI8 nmF szF rnF f hat8 v8 _ _ hf8 (by simp; omega)).mono ?_; rintro e w9 ⟨v9, rfl, hr9, hb9⟩; have hb09 := hb8.trans (hb9.mono hb8.size))
    | (at_builtin; refine wpList_append_bytes _ rfl _ _ rfl w9.heap.size v10 (0 + a.length) ([] ++ byteVals a) rfl hr10 _ b rfl (HB.out.below hb010) (by omega) (by have := hg10.size; simp at this; omega) ?_; intro v11 w11 hr11 hg11; obtain ⟨hb11, hbw11, hB9, hB11⟩ := HX.out w9 w10 w11 v9 v10 v11 _ hb09 hr9 hr10 hg10 hr11 hg11)
    | (at_builtin; refine wpList_append_bytes _ rfl _ _ rfl w9.heap.size _ 0 [] rfl (World.ownsRow_made w9 #[] 0 (Nat.le_refl _) (Nat.zero_le _) rfl) _ a rfl (HA.out.below (hb09.alloc hb09.size _)) (by omega) (by simp) ?_; intro v10 w10 hr10 hg10; have hb010 := HY.out w9 w10 hb09 hg10)
    | (go_at_call_of 20 (Value.slice aa a.length ac); refine (begins_yes _ _ a _ _ (HA.out.below hbw11) hB9 ((HP.out m hm1).1) (by simp; omega)).mono ?_; rintro e w12 ⟨rfl, k12, rfl⟩)
    | (go_at_call_of 20 v11; refine (begins_yes _ _ _ _ _ (show BytesAt (w11.drewN k12) v9 _ from hB9) (show BytesAt (w11.drewN k12) v11 _ from hB11) ((HP.out m hm1).2) (by simp; omega)).mono ?_; rintro e w13 ⟨rfl, k13, rfl⟩)
    | (go_at_call 13; refine (wakes_any _).mono ?_; rintro e w14 ⟨rfl, hb14⟩))
  go_ret
  exact ⟨rfl, (below_drewN hbw11 (k12 + k13)).trans (hb14.mono hbw11.size)⟩

set_option maxRecDepth 100000 in
set_option maxHeartbeats 2000000 in
theorem keeps_walk01 (bl : Nat) (aa ab : Option Addr) (ac bc : Nat) (cv : Value) (a b : List UInt8) (cs : List Int) (w : World) (ha : BytesAt w (.slice aa a.length ac) a) (hb : BytesAt w (.slice ab 1000 bc) b) (hc : CutsAt w cv cs)
    (hla : ∀ k, (Value.slice aa a.length ac).ownBlock = some k → a ≠ [] → k < w.heap.size) (hlb : ∀ k, (Value.slice ab 1000 bc).ownBlock = some k → b ≠ [] → k < w.heap.size) (hlc : ∀ k o l c, cv = .slice (some ⟨k, o, none⟩) l c → cs ≠ [] → k < w.heap.size)
    (hal : a.length ≤ 1000) (hbl : b.length ≤ 1000) (hbl1 : (1000 : Int) < (bl : Int)) (hbl2 : (1000 : Int) ≤ (bc : Int)) (_hbl3 : 1000 ≤ bc) :
    Calls Try.prog 4 #[.slice aa a.length ac, .slice ab bl bc, cv] w fun e w' => e = .returned (.bool true) ∧ Below w.heap.size w w' := by
  have HA : Hid (BytesAt w (.slice aa a.length ac) a) := ha
  have HB : Hid (BytesAt w (.slice ab 1000 bc) b) := hb
  have HC : Hid (CutsAt w cv cs) := hc
  have HLA : Hid (∀ k, (Value.slice aa a.length ac).ownBlock = some k → a ≠ [] → k < w.heap.size) := hla
  have HLB : Hid (∀ k, (Value.slice ab 1000 bc).ownBlock = some k → b ≠ [] → k < w.heap.size) := hlb
  have HLC : Hid (∀ k o l c, cv = .slice (some ⟨k, o, none⟩) l c → cs ≠ [] → k < w.heap.size) := hlc
  have HCB : Hid (∀ w', Below w.heap.size w w' → CutsAt w' cv cs) := fun w' hb' => hc.kept ((Kept.refl (fun _ => False) w).below hb') (fun _ _ _ _ _ _ e => e)
  have HP : Hid (∀ m, a.length ≤ m → a <+: (a ++ b).take m ∧ (a ++ b).take m <+: a ++ b) := fun m hm => ⟨by
    rw [List.take_append, List.take_of_length_le hm]
    exact List.prefix_append _ _, List.take_prefix _ _⟩
  have HY : Hid (∀ w9 w10 : World, Below w.heap.size w w9 → (w9.alloc (.cells #[] 5)).grownBy w10 (Value.slice (some ⟨w9.heap.size, 0, none⟩) 0 0).ownBlock → Below w.heap.size w w10) := fun w9 w10 h9 hg =>
    (h9.alloc h9.size _).grown hg (by have := h9.size; simp; omega) (fun k hk => by simp [Value.ownBlock] at hk; have := h9.size; omega)
  have HX : Hid (∀ (w9 w10 w11 : World) (v9 v10 v11 : Value) (c : List UInt8) {b8 : Nat}, Below w.heap.size w w9 → w9.ownsRow b8 5 1 v9 c.length (byteVals c) → w10.ownsRow w9.heap.size 5 1 v10 (0 + a.length) ([] ++ byteVals a) → (w9.alloc (.cells #[] 5)).grownBy w10 (Value.slice (some ⟨w9.heap.size, 0, none⟩) 0 0).ownBlock →
      w11.ownsRow w9.heap.size 5 1 v11 (0 + a.length + b.length) ([] ++ byteVals a ++ byteVals b) → w10.grownBy w11 v10.ownBlock → Below w9.heap.size w9 w11 ∧ Below w.heap.size w w11 ∧ BytesAt w11 v9 c ∧ BytesAt w11 v11 (a ++ b)) := fun w9 w10 w11 v9 v10 v11 c b8 h9 hr9 hr10 hg10 hr11 hg11 => by
    have hs10 := hg10.size
    simp at hs10
    have b1 : Below w9.heap.size w9 w10 := ((Below.refl _ w9).alloc (Nat.le_refl _) (.cells #[] 5)).grown hg10 (by simp) (fun k hk => by simp [Value.ownBlock] at hk; omega)
    have b2 : Below w9.heap.size w9 w11 := b1.grown hg11 (by omega) (fun k hk => (hr10.lt k hk).1)
    refine ⟨b2, h9.trans (b2.mono h9.size), (BytesAt.of_row hr9).below b2, BytesAt.of_row (base := w9.heap.size) ?_⟩
    have e : (a ++ b).length = 0 + a.length + b.length := by simp
    rw [e, byteVals_append]
    exact hr11
  clear ha hb hc hla hlb hlc
  go_enter Try.func4, Try.ntmps4
  go_wp2_with (first
    | (go_at_call 8; refine (new_any 4000 _).mono ?_; rintro e w1 ⟨rfl, hI1, hb1⟩)
    | (go_at_call_of 14 (Value.string ⟨#[102]⟩); refine (k_create w w1 hb1 w.heap.size (Nat.le_refl _) hI1).mono ?_; rintro e w2 ⟨rfl, f, pv, h2⟩)
    | (go_at_call_of 15 (Value.slice aa a.length ac); refine (k_append1 w w2 _ f pv h2 _ a (HA.out.below h2.bel) HLA.out hal).mono ?_; rintro e w3 ⟨rfl, v, h3⟩)
    | (go_at_call 16; refine (k_sync w w3 _ f pv v a _ h3).mono ?_; rintro e w4 ⟨rfl, h4⟩)
    | (go_at_call 17; refine (k_syncDir w w4 _ f pv v a _ h4).mono ?_; rintro e w5 ⟨rfl, h5⟩)
    | (go_at_call_of 15 (Value.slice ab 1000 bc); refine (k_append2 w w5 _ f v a h5 _ b (HB.out.below h5.bel) HLB.out hal hbl).mono ?_; rintro e w6 ⟨rfl, v6, h6⟩)
    | (go_at_call_of 14 (Value.string ⟨#[103]⟩); refine (k_create2 w w6 _ f _ _ h6).mono ?_; rintro e w7 ⟨rfl, g, pv7, hgf, h7, hg7, hgl⟩)
    | (go_at_call 18; refine (k_crash w w7 _ f g pv7 v6 a b _ hgf h7 hg7 hgl (by simp; omega) cv cs (HCB.out w7 h7.bel) HLC.out).mono ?_; rintro e w8 ⟨rfl, s8, v8, m, dur8, hI8, hat8, hf8, hm1, hm2, hb8⟩)
    | (go_at_call 19; refine (read_ok hI8 nmF szF rnF f hat8 v8 _ _ hf8 (by simp; omega)).mono ?_; rintro e w9 ⟨v9, rfl, hr9, hb9⟩; have hb09 := hb8.trans (hb9.mono hb8.size))
    | (at_builtin; refine wpList_append_bytes _ rfl _ _ rfl w9.heap.size v10 (0 + a.length) ([] ++ byteVals a) rfl hr10 _ b rfl (HB.out.below hb010) (by omega) (by have := hg10.size; simp at this; omega) ?_; intro v11 w11 hr11 hg11; obtain ⟨hb11, hbw11, hB9, hB11⟩ := HX.out w9 w10 w11 v9 v10 v11 _ hb09 hr9 hr10 hg10 hr11 hg11)
    | (at_builtin; refine wpList_append_bytes _ rfl _ _ rfl w9.heap.size _ 0 [] rfl (World.ownsRow_made w9 #[] 0 (Nat.le_refl _) (Nat.zero_le _) rfl) _ a rfl (HA.out.below (hb09.alloc hb09.size _)) (by omega) (by simp) ?_; intro v10 w10 hr10 hg10; have hb010 := HY.out w9 w10 hb09 hg10)
    | (go_at_call_of 20 (Value.slice aa a.length ac); refine (begins_yes _ _ a _ _ (HA.out.below hbw11) hB9 ((HP.out m hm1).1) (by simp; omega)).mono ?_; rintro e w12 ⟨rfl, k12, rfl⟩)
    | (go_at_call_of 20 v11; refine (begins_yes _ _ _ _ _ (show BytesAt (w11.drewN k12) v9 _ from hB9) (show BytesAt (w11.drewN k12) v11 _ from hB11) ((HP.out m hm1).2) (by simp; omega)).mono ?_; rintro e w13 ⟨rfl, k13, rfl⟩)
    | (go_at_call 13; refine (wakes_any _).mono ?_; rintro e w14 ⟨rfl, hb14⟩))
  go_ret
  exact ⟨rfl, (below_drewN hbw11 (k12 + k13)).trans (hb14.mono hbw11.size)⟩

set_option maxRecDepth 100000 in
set_option maxHeartbeats 2000000 in
theorem keeps_walk10 (al : Nat) (aa ab : Option Addr) (ac bc : Nat) (cv : Value) (a b : List UInt8) (cs : List Int) (w : World) (ha : BytesAt w (.slice aa 1000 ac) a) (hb : BytesAt w (.slice ab b.length bc) b) (hc : CutsAt w cv cs)
    (hla : ∀ k, (Value.slice aa 1000 ac).ownBlock = some k → a ≠ [] → k < w.heap.size) (hlb : ∀ k, (Value.slice ab b.length bc).ownBlock = some k → b ≠ [] → k < w.heap.size) (hlc : ∀ k o l c, cv = .slice (some ⟨k, o, none⟩) l c → cs ≠ [] → k < w.heap.size)
    (hal : a.length ≤ 1000) (hal1 : (1000 : Int) < (al : Int)) (hal2 : (1000 : Int) ≤ (ac : Int)) (_hal3 : 1000 ≤ ac) (hbl : b.length ≤ 1000) :
    Calls Try.prog 4 #[.slice aa al ac, .slice ab b.length bc, cv] w fun e w' => e = .returned (.bool true) ∧ Below w.heap.size w w' := by
  have HA : Hid (BytesAt w (.slice aa 1000 ac) a) := ha
  have HB : Hid (BytesAt w (.slice ab b.length bc) b) := hb
  have HC : Hid (CutsAt w cv cs) := hc
  have HLA : Hid (∀ k, (Value.slice aa 1000 ac).ownBlock = some k → a ≠ [] → k < w.heap.size) := hla
  have HLB : Hid (∀ k, (Value.slice ab b.length bc).ownBlock = some k → b ≠ [] → k < w.heap.size) := hlb
  have HLC : Hid (∀ k o l c, cv = .slice (some ⟨k, o, none⟩) l c → cs ≠ [] → k < w.heap.size) := hlc
  have HCB : Hid (∀ w', Below w.heap.size w w' → CutsAt w' cv cs) := fun w' hb' => hc.kept ((Kept.refl (fun _ => False) w).below hb') (fun _ _ _ _ _ _ e => e)
  have HP : Hid (∀ m, a.length ≤ m → a <+: (a ++ b).take m ∧ (a ++ b).take m <+: a ++ b) := fun m hm => ⟨by
    rw [List.take_append, List.take_of_length_le hm]
    exact List.prefix_append _ _, List.take_prefix _ _⟩
  have HY : Hid (∀ w9 w10 : World, Below w.heap.size w w9 → (w9.alloc (.cells #[] 5)).grownBy w10 (Value.slice (some ⟨w9.heap.size, 0, none⟩) 0 0).ownBlock → Below w.heap.size w w10) := fun w9 w10 h9 hg =>
    (h9.alloc h9.size _).grown hg (by have := h9.size; simp; omega) (fun k hk => by simp [Value.ownBlock] at hk; have := h9.size; omega)
  have HX : Hid (∀ (w9 w10 w11 : World) (v9 v10 v11 : Value) (c : List UInt8) {b8 : Nat}, Below w.heap.size w w9 → w9.ownsRow b8 5 1 v9 c.length (byteVals c) → w10.ownsRow w9.heap.size 5 1 v10 (0 + a.length) ([] ++ byteVals a) → (w9.alloc (.cells #[] 5)).grownBy w10 (Value.slice (some ⟨w9.heap.size, 0, none⟩) 0 0).ownBlock →
      w11.ownsRow w9.heap.size 5 1 v11 (0 + a.length + b.length) ([] ++ byteVals a ++ byteVals b) → w10.grownBy w11 v10.ownBlock → Below w9.heap.size w9 w11 ∧ Below w.heap.size w w11 ∧ BytesAt w11 v9 c ∧ BytesAt w11 v11 (a ++ b)) := fun w9 w10 w11 v9 v10 v11 c b8 h9 hr9 hr10 hg10 hr11 hg11 => by
    have hs10 := hg10.size
    simp at hs10
    have b1 : Below w9.heap.size w9 w10 := ((Below.refl _ w9).alloc (Nat.le_refl _) (.cells #[] 5)).grown hg10 (by simp) (fun k hk => by simp [Value.ownBlock] at hk; omega)
    have b2 : Below w9.heap.size w9 w11 := b1.grown hg11 (by omega) (fun k hk => (hr10.lt k hk).1)
    refine ⟨b2, h9.trans (b2.mono h9.size), (BytesAt.of_row hr9).below b2, BytesAt.of_row (base := w9.heap.size) ?_⟩
    have e : (a ++ b).length = 0 + a.length + b.length := by simp
    rw [e, byteVals_append]
    exact hr11
  clear ha hb hc hla hlb hlc
  go_enter Try.func4, Try.ntmps4
  go_wp2_with (first
    | (go_at_call 8; refine (new_any 4000 _).mono ?_; rintro e w1 ⟨rfl, hI1, hb1⟩)
    | (go_at_call_of 14 (Value.string ⟨#[102]⟩); refine (k_create w w1 hb1 w.heap.size (Nat.le_refl _) hI1).mono ?_; rintro e w2 ⟨rfl, f, pv, h2⟩)
    | (go_at_call_of 15 (Value.slice aa 1000 ac); refine (k_append1 w w2 _ f pv h2 _ a (HA.out.below h2.bel) HLA.out hal).mono ?_; rintro e w3 ⟨rfl, v, h3⟩)
    | (go_at_call 16; refine (k_sync w w3 _ f pv v a _ h3).mono ?_; rintro e w4 ⟨rfl, h4⟩)
    | (go_at_call 17; refine (k_syncDir w w4 _ f pv v a _ h4).mono ?_; rintro e w5 ⟨rfl, h5⟩)
    | (go_at_call_of 15 (Value.slice ab b.length bc); refine (k_append2 w w5 _ f v a h5 _ b (HB.out.below h5.bel) HLB.out hal hbl).mono ?_; rintro e w6 ⟨rfl, v6, h6⟩)
    | (go_at_call_of 14 (Value.string ⟨#[103]⟩); refine (k_create2 w w6 _ f _ _ h6).mono ?_; rintro e w7 ⟨rfl, g, pv7, hgf, h7, hg7, hgl⟩)
    | (go_at_call 18; refine (k_crash w w7 _ f g pv7 v6 a b _ hgf h7 hg7 hgl (by simp; omega) cv cs (HCB.out w7 h7.bel) HLC.out).mono ?_; rintro e w8 ⟨rfl, s8, v8, m, dur8, hI8, hat8, hf8, hm1, hm2, hb8⟩)
    | (go_at_call 19; refine (read_ok hI8 nmF szF rnF f hat8 v8 _ _ hf8 (by simp; omega)).mono ?_; rintro e w9 ⟨v9, rfl, hr9, hb9⟩; have hb09 := hb8.trans (hb9.mono hb8.size))
    | (at_builtin; refine wpList_append_bytes _ rfl _ _ rfl w9.heap.size v10 (0 + a.length) ([] ++ byteVals a) rfl hr10 _ b rfl (HB.out.below hb010) (by omega) (by have := hg10.size; simp at this; omega) ?_; intro v11 w11 hr11 hg11; obtain ⟨hb11, hbw11, hB9, hB11⟩ := HX.out w9 w10 w11 v9 v10 v11 _ hb09 hr9 hr10 hg10 hr11 hg11)
    | (at_builtin; refine wpList_append_bytes _ rfl _ _ rfl w9.heap.size _ 0 [] rfl (World.ownsRow_made w9 #[] 0 (Nat.le_refl _) (Nat.zero_le _) rfl) _ a rfl (HA.out.below (hb09.alloc hb09.size _)) (by omega) (by simp) ?_; intro v10 w10 hr10 hg10; have hb010 := HY.out w9 w10 hb09 hg10)
    | (go_at_call_of 20 (Value.slice aa 1000 ac); refine (begins_yes _ _ a _ _ (HA.out.below hbw11) hB9 ((HP.out m hm1).1) (by simp; omega)).mono ?_; rintro e w12 ⟨rfl, k12, rfl⟩)
    | (go_at_call_of 20 v11; refine (begins_yes _ _ _ _ _ (show BytesAt (w11.drewN k12) v9 _ from hB9) (show BytesAt (w11.drewN k12) v11 _ from hB11) ((HP.out m hm1).2) (by simp; omega)).mono ?_; rintro e w13 ⟨rfl, k13, rfl⟩)
    | (go_at_call 13; refine (wakes_any _).mono ?_; rintro e w14 ⟨rfl, hb14⟩))
  go_ret
  exact ⟨rfl, (below_drewN hbw11 (k12 + k13)).trans (hb14.mono hbw11.size)⟩

set_option maxRecDepth 100000 in
set_option maxHeartbeats 2000000 in
theorem keeps_walk11 (al : Nat) (bl : Nat) (aa ab : Option Addr) (ac bc : Nat) (cv : Value) (a b : List UInt8) (cs : List Int) (w : World) (ha : BytesAt w (.slice aa 1000 ac) a) (hb : BytesAt w (.slice ab 1000 bc) b) (hc : CutsAt w cv cs)
    (hla : ∀ k, (Value.slice aa 1000 ac).ownBlock = some k → a ≠ [] → k < w.heap.size) (hlb : ∀ k, (Value.slice ab 1000 bc).ownBlock = some k → b ≠ [] → k < w.heap.size) (hlc : ∀ k o l c, cv = .slice (some ⟨k, o, none⟩) l c → cs ≠ [] → k < w.heap.size)
    (hal : a.length ≤ 1000) (hal1 : (1000 : Int) < (al : Int)) (hal2 : (1000 : Int) ≤ (ac : Int)) (_hal3 : 1000 ≤ ac) (hbl : b.length ≤ 1000) (hbl1 : (1000 : Int) < (bl : Int)) (hbl2 : (1000 : Int) ≤ (bc : Int)) (_hbl3 : 1000 ≤ bc) :
    Calls Try.prog 4 #[.slice aa al ac, .slice ab bl bc, cv] w fun e w' => e = .returned (.bool true) ∧ Below w.heap.size w w' := by
  have HA : Hid (BytesAt w (.slice aa 1000 ac) a) := ha
  have HB : Hid (BytesAt w (.slice ab 1000 bc) b) := hb
  have HC : Hid (CutsAt w cv cs) := hc
  have HLA : Hid (∀ k, (Value.slice aa 1000 ac).ownBlock = some k → a ≠ [] → k < w.heap.size) := hla
  have HLB : Hid (∀ k, (Value.slice ab 1000 bc).ownBlock = some k → b ≠ [] → k < w.heap.size) := hlb
  have HLC : Hid (∀ k o l c, cv = .slice (some ⟨k, o, none⟩) l c → cs ≠ [] → k < w.heap.size) := hlc
  have HCB : Hid (∀ w', Below w.heap.size w w' → CutsAt w' cv cs) := fun w' hb' => hc.kept ((Kept.refl (fun _ => False) w).below hb') (fun _ _ _ _ _ _ e => e)
  have HP : Hid (∀ m, a.length ≤ m → a <+: (a ++ b).take m ∧ (a ++ b).take m <+: a ++ b) := fun m hm => ⟨by
    rw [List.take_append, List.take_of_length_le hm]
    exact List.prefix_append _ _, List.take_prefix _ _⟩
  have HY : Hid (∀ w9 w10 : World, Below w.heap.size w w9 → (w9.alloc (.cells #[] 5)).grownBy w10 (Value.slice (some ⟨w9.heap.size, 0, none⟩) 0 0).ownBlock → Below w.heap.size w w10) := fun w9 w10 h9 hg =>
    (h9.alloc h9.size _).grown hg (by have := h9.size; simp; omega) (fun k hk => by simp [Value.ownBlock] at hk; have := h9.size; omega)
  have HX : Hid (∀ (w9 w10 w11 : World) (v9 v10 v11 : Value) (c : List UInt8) {b8 : Nat}, Below w.heap.size w w9 → w9.ownsRow b8 5 1 v9 c.length (byteVals c) → w10.ownsRow w9.heap.size 5 1 v10 (0 + a.length) ([] ++ byteVals a) → (w9.alloc (.cells #[] 5)).grownBy w10 (Value.slice (some ⟨w9.heap.size, 0, none⟩) 0 0).ownBlock →
      w11.ownsRow w9.heap.size 5 1 v11 (0 + a.length + b.length) ([] ++ byteVals a ++ byteVals b) → w10.grownBy w11 v10.ownBlock → Below w9.heap.size w9 w11 ∧ Below w.heap.size w w11 ∧ BytesAt w11 v9 c ∧ BytesAt w11 v11 (a ++ b)) := fun w9 w10 w11 v9 v10 v11 c b8 h9 hr9 hr10 hg10 hr11 hg11 => by
    have hs10 := hg10.size
    simp at hs10
    have b1 : Below w9.heap.size w9 w10 := ((Below.refl _ w9).alloc (Nat.le_refl _) (.cells #[] 5)).grown hg10 (by simp) (fun k hk => by simp [Value.ownBlock] at hk; omega)
    have b2 : Below w9.heap.size w9 w11 := b1.grown hg11 (by omega) (fun k hk => (hr10.lt k hk).1)
    refine ⟨b2, h9.trans (b2.mono h9.size), (BytesAt.of_row hr9).below b2, BytesAt.of_row (base := w9.heap.size) ?_⟩
    have e : (a ++ b).length = 0 + a.length + b.length := by simp
    rw [e, byteVals_append]
    exact hr11
  clear ha hb hc hla hlb hlc
  go_enter Try.func4, Try.ntmps4
  go_wp2_with (first
    | (go_at_call 8; refine (new_any 4000 _).mono ?_; rintro e w1 ⟨rfl, hI1, hb1⟩)
    | (go_at_call_of 14 (Value.string ⟨#[102]⟩); refine (k_create w w1 hb1 w.heap.size (Nat.le_refl _) hI1).mono ?_; rintro e w2 ⟨rfl, f, pv, h2⟩)
    | (go_at_call_of 15 (Value.slice aa 1000 ac); refine (k_append1 w w2 _ f pv h2 _ a (HA.out.below h2.bel) HLA.out hal).mono ?_; rintro e w3 ⟨rfl, v, h3⟩)
    | (go_at_call 16; refine (k_sync w w3 _ f pv v a _ h3).mono ?_; rintro e w4 ⟨rfl, h4⟩)
    | (go_at_call 17; refine (k_syncDir w w4 _ f pv v a _ h4).mono ?_; rintro e w5 ⟨rfl, h5⟩)
    | (go_at_call_of 15 (Value.slice ab 1000 bc); refine (k_append2 w w5 _ f v a h5 _ b (HB.out.below h5.bel) HLB.out hal hbl).mono ?_; rintro e w6 ⟨rfl, v6, h6⟩)
    | (go_at_call_of 14 (Value.string ⟨#[103]⟩); refine (k_create2 w w6 _ f _ _ h6).mono ?_; rintro e w7 ⟨rfl, g, pv7, hgf, h7, hg7, hgl⟩)
    | (go_at_call 18; refine (k_crash w w7 _ f g pv7 v6 a b _ hgf h7 hg7 hgl (by simp; omega) cv cs (HCB.out w7 h7.bel) HLC.out).mono ?_; rintro e w8 ⟨rfl, s8, v8, m, dur8, hI8, hat8, hf8, hm1, hm2, hb8⟩)
    | (go_at_call 19; refine (read_ok hI8 nmF szF rnF f hat8 v8 _ _ hf8 (by simp; omega)).mono ?_; rintro e w9 ⟨v9, rfl, hr9, hb9⟩; have hb09 := hb8.trans (hb9.mono hb8.size))
    | (at_builtin; refine wpList_append_bytes _ rfl _ _ rfl w9.heap.size v10 (0 + a.length) ([] ++ byteVals a) rfl hr10 _ b rfl (HB.out.below hb010) (by omega) (by have := hg10.size; simp at this; omega) ?_; intro v11 w11 hr11 hg11; obtain ⟨hb11, hbw11, hB9, hB11⟩ := HX.out w9 w10 w11 v9 v10 v11 _ hb09 hr9 hr10 hg10 hr11 hg11)
    | (at_builtin; refine wpList_append_bytes _ rfl _ _ rfl w9.heap.size _ 0 [] rfl (World.ownsRow_made w9 #[] 0 (Nat.le_refl _) (Nat.zero_le _) rfl) _ a rfl (HA.out.below (hb09.alloc hb09.size _)) (by omega) (by simp) ?_; intro v10 w10 hr10 hg10; have hb010 := HY.out w9 w10 hb09 hg10)
    | (go_at_call_of 20 (Value.slice aa 1000 ac); refine (begins_yes _ _ a _ _ (HA.out.below hbw11) hB9 ((HP.out m hm1).1) (by simp; omega)).mono ?_; rintro e w12 ⟨rfl, k12, rfl⟩)
    | (go_at_call_of 20 v11; refine (begins_yes _ _ _ _ _ (show BytesAt (w11.drewN k12) v9 _ from hB9) (show BytesAt (w11.drewN k12) v11 _ from hB11) ((HP.out m hm1).2) (by simp; omega)).mono ?_; rintro e w13 ⟨rfl, k13, rfl⟩)
    | (go_at_call 13; refine (wakes_any _).mono ?_; rintro e w14 ⟨rfl, hb14⟩))
  go_ret
  exact ⟨rfl, (below_drewN hbw11 (k12 + k13)).trans (hb14.mono hbw11.size)⟩

end Go.Proofs.Ytihoccaaecmcfaa
