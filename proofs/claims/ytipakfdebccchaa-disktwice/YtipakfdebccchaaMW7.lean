/- Bytes are put at a file's end; a file's bytes become durable. -/
import Derived.Test.YtipakfdebccchaaMW6
import Derived.Maps.AppendAt
namespace Go.Proofs.Ytipakfdebccchaa
open Go.RowKit Go.Maps
open Go.WideMaps Go.WideElems

theorem info5 : (Try.prog.info? 5).map (fun i => (i.zero, i.size, i.bytes)) = some (some (.int .u8 0), 1, 1) := by kernel_rfl

def byteVals (l : List UInt8) : List Value := l.map fun b => .int .u8 b.toNat

/-- A file: its bytes, and how many of them are durable. -/
structure FileAt (w : World) (f : Nat) (v : Value) (bs : List UInt8) (dur : Int) : Prop where
  at_ : w.heap[f]? = some (.cells #[v, .int .i64 dur] 72)
  row : w.ownsRow 0 5 1 v bs.length (byteVals bs)

theorem FileAt.kept {w w' : World} {f : Nat} {v : Value} {bs : List UInt8} {dur : Int} (h : FileAt w f v bs dur) {O : Nat → Prop} (k : Kept O w w') (h1 : ¬ O f) (h2 : ∀ i, v.ownBlock = some i → ¬ O i) : FileAt w' f v bs dur :=
  ⟨k.heap h.at_ h1, k.ownsRow h.row h2⟩
theorem FileAt.cells {w : World} {f : Nat} {v : Value} {bs : List UInt8} {dur : Int} (h : FileAt w f v bs dur) : w.cell? ⟨f, 0, none⟩ = some v ∧ w.cell? ⟨f, 1, none⟩ = some (.int .i64 dur) ∧ w.frozen? ⟨f, 0, none⟩ = false ∧ w.frozen? ⟨f, 1, none⟩ = false :=
  ⟨by rw [cell_of_heap h.at_]; rfl, by rw [cell_of_heap h.at_]; rfl, frozen_of_heap h.at_, frozen_of_heap h.at_⟩
theorem FileAt.ne_disk {w : World} {f : Nat} {v : Value} {bs : List UInt8} {dur : Int} (h : FileAt w f v bs dur) {d : Nat} {cap used ops : Int} {nb db : Nat} {pv : Value} {fb : Nat} {stop : Int} (hd : DiskAt w d cap used ops nb db pv fb stop) : f ≠ d := by
  intro e
  subst e
  have := h.at_
  unfold DiskAt at hd
  rw [hd] at this
  cases this
theorem FileAt.ne_row {w : World} {f : Nat} {v : Value} {bs : List UInt8} {dur : Int} (h : FileAt w f v bs dur) {base n size : Nat} {e : TypeId} {v' : Value} {xs : List Value} (ho : w.ownsRow base e size v' n xs) (he : e ≠ 72) : v'.ownBlock ≠ some f := by
  intro hv
  rcases ho.2 with ⟨rfl, _⟩ | ⟨g, cap, cur, rfl, _, hg, _⟩
  · cases hv
  · simp [Value.ownBlock] at hv
    subst hv
    rw [h.at_] at hg
    simp at hg
    exact he hg.2.symm
theorem FileAt.ne_map {w : World} {f : Nat} {v : Value} {bs : List UInt8} {dur : Int} (h : FileAt w f v bs dur) {H : Type} {k : TypeId} {R : Value → Option (DataW H × List MemPlace)} {b n : Nat} {D : DataW H} (ho : w.ownsMap Try.prog k R b n D) : f ≠ b := by
  intro e
  subst e
  obtain ⟨es, clock, hh, _⟩ := ho
  rw [h.at_] at hh
  cases hh

theorem slice_of_row {w : World} {base n size : Nat} {e : TypeId} {v : Value} {xs : List Value} (ho : w.ownsRow base e size v n xs) : ∃ a c, v = .slice a n c := by
  rcases ho.2 with ⟨rfl, rfl⟩ | ⟨g, cap, cur, rfl, _⟩
  · exact ⟨none, 0, rfl⟩
  · exact ⟨_, _, rfl⟩

theorem byteVals_append (a b : List UInt8) : byteVals (a ++ b) = byteVals a ++ byteVals b := by simp [byteVals]
theorem byteVals_length (a : List UInt8) : (byteVals a).length = a.length := by simp [byteVals]
theorem byteVals_one (a : List UInt8) : ∀ u ∈ byteVals a, u.oneCell' = true := by
  intro u hu
  obtain ⟨x, _, rfl⟩ := List.mem_map.1 hu
  rfl

set_option maxRecDepth 100000 in
set_option maxHeartbeats 1000000 in
theorem put_any (d f : Nat) (cap used ops : Int) (nb db : Nat) (pv : Value) (fb : Nat) (stop : Int) (v : Value) (bs : List UInt8) (dur : Int) (ad : Addr) (m c : Nat) (nw : List UInt8) (w : World)
    (hd : DiskAt w d cap used ops nb db pv fb stop) (hf : FileAt w f v bs dur) (hm : nw.length = m) (hnews : ∀ j u, (byteVals nw)[j]? = some u → w.cell? (ad.add j) = some u)
    (hl : bs.length + m ≤ 1000000000000) (hu : 0 ≤ used) (hu' : used ≤ 1000000000000) :
    Calls Try.prog 62 #[.pointer (some ⟨d, 0, none⟩), .pointer (some ⟨f, 0, none⟩), .slice (some ad) m c] w fun e w' => e = .returned (.tuple #[]) ∧
      ∃ v', FileAt w' f v' (bs ++ nw) dur ∧ DiskAt w' d cap (used + m) ops nb db pv fb stop ∧ (v'.ownBlock = v.ownBlock ∨ v'.ownBlock = some w.heap.size) ∧ Kept (fun k => k = d ∨ k = f ∨ v.ownBlock = some k) w w' := by
  obtain ⟨c0, c1, c2, c3, c4, c5, c6, c7, cf⟩ := hd.cells
  obtain ⟨f0, f1, ff0, ff1⟩ := hf.cells
  have hne := hf.ne_disk hd
  have hrd := hd.ne_row hf.row (by decide)
  have hrf := hf.ne_row hf.row (by decide)
  obtain ⟨i0, hi0, hz0, hz1, hz2⟩ := info_parts info5
  have HN : Hid (∀ j u, (byteVals nw)[j]? = some u → w.cell? (ad.add j) = some u) := hnews
  clear hnews
  have H1 : Hid ((byteVals nw).length = m * 1) := by show _ = _; rw [byteVals_length]; omega
  have H2 : Hid (bs.length + m ≤ maxLen) := by show _ ≤ _; unfold maxLen; omega
  have H3 : Hid ((bs.length + m) * 1 ≤ 140737488355328) := by show _ ≤ _; omega
  have hne' := hne.symm
  have hff : ∀ w1 : World, w.grownBy w1 v.ownBlock → w1.heap[f]? = some (.cells #[v, .int .i64 dur] 72) := fun w1 hg => (hg.block f (Array.getElem?_eq_some_iff.1 hf.at_).1 hrf.symm).trans hf.at_
  have HFF : Hid (∀ w1 : World, w.grownBy w1 v.ownBlock → w1.heap[f]? = some (.cells #[v, .int .i64 dur] 72)) := hff
  clear hff
  go_enter Try.func62, Try.ntmps62
  go_wp2_with (at_builtin; refine wpList_append_own_at _ rfl _ _ 31 rfl 0 5 i0 (.int .u8 0) 1 1 Try.underlying31 hi0 hz0 hz1 hz2 rfl (by decide) v bs.length (byteVals bs) rfl hf.row ad m c (byteVals nw) rfl H1.out HN.out (byteVals_one nw) H2.out H3.out (Nat.zero_le _) ?_; intro v' w1 hown1 hgrow hnil hloc; obtain ⟨a', c', rfl⟩ := slice_of_row hown1; have hd1 := hd.grown hgrow hrd; obtain ⟨d0, d1, d2, d3, d4, d5, d6, d7, df⟩ := hd1.cells; have hf1 := HFF.out _ hgrow; have q0 : w1.cell? ⟨f, 0, none⟩ = some v := (by rw [cell_of_heap hf1]; rfl); have q1 : w1.frozen? ⟨f, 0, none⟩ = false := frozen_of_heap hf1)
  go_end0
  have k1 : Kept (fun k => k = d ∨ k = f ∨ v.ownBlock = some k) w w1 := (Kept.refl _ w).grown hgrow (fun k _ h => Or.inr (Or.inr h))
  have k2 : Kept (fun k => k = f) w1 (w1.setCell ⟨f, 0, none⟩ (.slice a' (bs.length + m) c')) := (Kept.refl (fun k => k = f) w1).setCell (fun _ => rfl) _
  have hd2 := hd1.other (a := ⟨f, 0, none⟩) hne' (.slice a' (bs.length + m) c')
  have r1 : (w1.setCell ⟨f, 0, none⟩ (.slice a' (bs.length + m) c')).ownsRow 0 5 1 (.slice a' (bs.length + m) c') (bs.length + m) (byteVals bs ++ byteVals nw) := k2.ownsRow hown1 (fun k hk e => by
    rcases hown1.2 with ⟨e1, _⟩ | ⟨g, cap', cur, e1, _, hg, _⟩
    · rw [e1] at hk; cases hk
    · rw [e1] at hk
      simp [Value.ownBlock] at hk
      subst hk; subst e
      rw [hf1] at hg
      cases hg)
  have hfin : (w1.setCell ⟨f, 0, none⟩ (.slice a' (bs.length + m) c')).heap[f]? = some (.cells #[.slice a' (bs.length + m) c', .int .i64 dur] 72) := heap_setCell_same hf1 _
  have r2 : ((w1.setCell ⟨f, 0, none⟩ (.slice a' (bs.length + m) c')).setCell ⟨d, 1, none⟩ (.int .i64 (used + m))).ownsRow 0 5 1 (.slice a' (bs.length + m) c') (bs.length + m) (byteVals bs ++ byteVals nw) :=
    ((Kept.refl (fun k => k = d) _).setCell (fun _ => rfl) _).ownsRow r1 (fun k hk e => hd2.ne_row r1 (by decide) (by rw [hk, e]))
  refine ⟨rfl, .slice a' (bs.length + m) c', ⟨(Below.heap_setCell _ ⟨d, 1, none⟩ _ f hne).trans hfin, ?_⟩, hd2.set1 _, hloc, (k1.setCell (fun _ => Or.inr (Or.inl rfl)) _).setCell (fun _ => Or.inl rfl) _⟩
  have e1 : (bs ++ nw).length = bs.length + m := by simp [hm]
  rw [e1, byteVals_append]
  exact r2

section
variable (d f : Nat) (cap used ops : Int) (nb db : Nat) (pv : Value) (fb : Nat) (stop : Int) (n : Nat) (N : DataW Unit) (s : ByteArray) (w : World)
  (hs : s.size ≤ maxLen) (hr : rn s = true) (hd : DiskAt w d cap used ops nb db pv fb stop) (hN : w.ownsMap Try.prog 9 fileElem nb n N) (hat : N.atKey (.string s.data.toList) .nil = .lit (.int .i64 f))
include hs hr hd hN hat

set_option maxRecDepth 100000 in
set_option maxHeartbeats 1000000 in
theorem findRoom_ok (m : Nat) (hm : 0 < m) (hc0 : 0 ≤ cap) (hc1 : cap ≤ 1000000000000) (hu0 : 0 ≤ used) (hu1 : used ≤ 1000000000000) (hroom : (m : Int) ≤ cap - used) :
    Calls Try.prog 61 #[.pointer (some ⟨d, 0, none⟩), .string s, .int .i64 m] w fun e w' => e = .returned (.tuple #[.pointer (some ⟨f, 0, none⟩), .int .i64 0]) ∧ ∃ k, w' = w.drewN k := by
  obtain ⟨c0, c1, c2, c3, c4, c5, c6, c7, cf⟩ := hd.cells
  have hm' : (0 : Int) < (m : Int) := by omega
  have HA : Hid (N.atKey (.string s.data.toList) .nil = .lit (.int .i64 f)) := hat
  clear hat
  go_enter Try.func61, Try.ntmps61
  go_wp2_with (go_at_call 41; refine (find_some _ _ _ _ _ _ _ _ _ _ _ _ _ f hs hr hd hN HA.out).mono ?_; rintro e w1 ⟨rfl, rfl⟩)
  go_quiet (fail)
  go_wp2
  go_ret2
  exact ⟨rfl, nq, rfl⟩

set_option maxRecDepth 100000 in
set_option maxHeartbeats 1000000 in
theorem findRoom_zero :
    Calls Try.prog 61 #[.pointer (some ⟨d, 0, none⟩), .string s, .int .i64 0] w fun e w' => e = .returned (.tuple #[.pointer (some ⟨f, 0, none⟩), .int .i64 0]) ∧ ∃ k, w' = w.drewN k := by
  have HA : Hid (N.atKey (.string s.data.toList) .nil = .lit (.int .i64 f)) := hat
  clear hat
  go_enter Try.func61, Try.ntmps61
  go_wp2_with (go_at_call 41; refine (find_some _ _ _ _ _ _ _ _ _ _ _ _ _ f hs hr hd hN HA.out).mono ?_; rintro e w1 ⟨rfl, rfl⟩)
  go_quiet (fail)
  go_wp2
  go_ret2
  exact ⟨rfl, nq, rfl⟩
end

theorem torn_of_ok {s : St} {c : Int} (h : s.err = 0) : bTorn (Maps.has s.F (.int .i64 s.ops)) c s.stop = false := by
  unfold St.err bErr at h
  unfold bTorn
  by_cases h0 : s.stop = 0
  · simp [h0]
  · simp only [h0, if_false] at h
    cases hb : Maps.has s.F (.int .i64 s.ops)
    · simp
    · rw [hb] at h
      simp at h

set_option maxRecDepth 100000 in
set_option maxHeartbeats 1000000 in
theorem append_ok {w : World} {d : Nat} {s : St} (h : IsDisk w d s) (ho : s.ops < 1000000000) (hE : s.err = 0) (name : ByteArray) (hr : rn name = true) (hs : name.size ≤ maxLen) (f : Nat) (hat : s.N.atKey (.string name.data.toList) .nil = .lit (.int .i64 f))
    (v : Value) (bs : List UInt8) (dur : Int) (hf : FileAt w f v bs dur) (hrow : ∀ k, v.ownBlock = some k → ¬ s.own d k) (ad : Addr) (m c : Nat) (nw : List UInt8) (hm : nw.length = m) (hnews : ∀ j u, (byteVals nw)[j]? = some u → w.cell? (ad.add j) = some u) (hadr : 0 < m → ¬ s.own d ad.block)
    (hl : bs.length + m ≤ 1000000000000) (hc0 : 0 ≤ s.cap) (hc1 : s.cap ≤ 1000000000000) (hu0 : 0 ≤ s.used) (hu1 : s.used ≤ 1000000000000) (hroom : (m : Int) ≤ s.cap - s.used ∨ m = 0) :
    Calls Try.prog 34 #[.pointer (some ⟨d, 0, none⟩), .string name, .slice (some ad) m c] w fun e w' => e = .returned (.int .i64 0) ∧
      ∃ v', FileAt w' f v' (bs ++ nw) dur ∧ IsDisk w' d { s.begun with used := s.used + m } ∧ (v'.ownBlock = v.ownBlock ∨ ∃ g, v'.ownBlock = some g ∧ w.heap.size ≤ g) ∧ Kept (fun k => s.own d k ∨ k = f ∨ v.ownBlock = some k) w w' := by
  obtain ⟨cc, _, hbeg⟩ := begin_is h ho
  rw [hE, torn_of_ok hE] at hbeg
  have HA : Hid (s.N.atKey (.string name.data.toList) .nil = .lit (.int .i64 f)) := hat
  clear hat
  have HB : Hid (∀ w1, Kept (fun k => k = d ∨ k = s.fb) w w1 → FileAt w1 f v bs dur ∧ (∀ j u, (byteVals nw)[j]? = some u → w1.cell? (ad.add j) = some u)) := fun w1 k => by
    refine ⟨hf.kept k (fun e => e.elim (hf.ne_disk h.at_) (hf.ne_map h.mF)) (fun i hi e => hrow i hi (begun_own e)), fun j u hj => ?_⟩
    have hj' := (List.getElem?_eq_some_iff.1 hj).1
    rw [byteVals_length] at hj'
    have hb : (ad.add j).block = ad.block := by unfold Addr.add; split <;> rfl
    have hc := hnews j u hj
    have hlt := World.block_lt_of_cell? w _ hc
    rw [World.cell?_of_block (w := w) (w' := w1) (a := ad.add j) (k.block _ hlt (fun e => hadr (by omega) (begun_own (by rw [hb] at e; exact e))))]
    exact hc
  clear hf hnews
  have HF : Hid (∀ (w1 w3 : World) (k : Nat) (v' : Value), IsDisk w1 d s.begun → Kept (fun k => k = d ∨ k = s.fb) w w1 → FileAt w1 f v bs dur → DiskAt w3 d s.cap (s.used + m) s.begun.ops s.nb s.db s.pv s.fb s.begun.stop → (v'.ownBlock = v.ownBlock ∨ v'.ownBlock = some (w1.drewN k).heap.size) → Kept (fun k => k = d ∨ k = f ∨ v.ownBlock = some k) (w1.drewN k) w3 →
      IsDisk w3 d { s.begun with used := s.used + m } ∧ (v'.ownBlock = v.ownBlock ∨ ∃ g, v'.ownBlock = some g ∧ w.heap.size ≤ g) ∧ Kept (fun k => s.own d k ∨ k = f ∨ v.ownBlock = some k) w w3) := fun w1 w3 k v' hI hk hf1 hd3 hv3 hk3 => by
    refine ⟨⟨hd3, ?_, ?_, ?_, ?_, h.nd, h.nf, h.df, hI.o0, hI.s0, hI.s1⟩, ?_, ?_⟩
    · exact hk3.ownsMap (b := s.nb) hI.mN (fun e => by
        rcases e with e | e | e
        · exact hI.at_.ne_map hI.mN e.symm
        · exact hf1.ne_map hI.mN e.symm
        · exact map_ne_row hI.mN hf1.row e)
    · exact hk3.ownsMap (b := s.db) hI.mD (fun e => by
        rcases e with e | e | e
        · exact hI.at_.ne_map hI.mD e.symm
        · exact hf1.ne_map hI.mD e.symm
        · exact map_ne_row hI.mD hf1.row e)
    · exact hk3.ownsMap (b := s.fb) hI.mF (fun e => by
        rcases e with e | e | e
        · exact hI.at_.ne_map hI.mF e.symm
        · exact hf1.ne_map hI.mF e.symm
        · exact map_ne_row hI.mF hf1.row e)
    · exact hk3.ownsRow (v := s.pv) hI.row (fun i hi e => by
        rcases e with e | e | e
        · exact hI.at_.ne_row hI.row (by decide) (e ▸ hi)
        · exact hf1.ne_row hI.row (by decide) (e ▸ hi)
        · exact hrow i e (Or.inr (Or.inr (Or.inr (Or.inr hi)))))
    · rcases hv3 with e | e
      · exact Or.inl e
      · exact Or.inr ⟨_, e, hk.size⟩
    · exact ((hk.mono (fun _ _ e => Or.inl (begun_own e))).drewN k).trans hk3 (fun i _ e => by
        rcases e with e | e
        · exact Or.inl (Or.inl e)
        · exact Or.inr e)
  rcases Nat.eq_zero_or_pos m with h0 | h0
  · subst h0
    go_enter Try.func34, Try.ntmps34
    go_wp2_with (first | (go_at_call 59; refine hbeg.mono ?_; rintro e w1 ⟨rfl, hI, hk⟩; obtain ⟨hf1, hn1⟩ := HB.out _ hk; replace hn1 : Hid (∀ j u, (byteVals nw)[j]? = some u → w1.cell? (ad.add j) = some u) := hn1) | (go_at_call 61; refine (findRoom_zero d f _ _ _ _ _ _ _ _ _ _ name _ hs hr hI.at_ hI.mN HA.out).mono ?_; rintro e w2 ⟨rfl, k, rfl⟩) | (go_at_call 62; refine (put_any d f _ _ _ _ _ _ _ _ v bs dur ad 0 c nw (w1.drewN k) hI.at_ ⟨hf1.at_, hf1.row⟩ hm hn1.out hl hu0 hu1).mono ?_; rintro e w3 ⟨rfl, v', hf3, hd3, hv3, hk3⟩))
    go_ret
    exact ⟨rfl, v', hf3, HF.out w1 w3 k v' hI hk hf1 hd3 hv3 hk3⟩
  · have hroom' : (m : Int) ≤ s.cap - s.used := by omega
    go_enter Try.func34, Try.ntmps34
    go_wp2_with (first | (go_at_call 59; refine hbeg.mono ?_; rintro e w1 ⟨rfl, hI, hk⟩; obtain ⟨hf1, hn1⟩ := HB.out _ hk; replace hn1 : Hid (∀ j u, (byteVals nw)[j]? = some u → w1.cell? (ad.add j) = some u) := hn1) | (go_at_call 61; refine (findRoom_ok d f _ _ _ _ _ _ _ _ _ _ name _ hs hr hI.at_ hI.mN HA.out m h0 hc0 hc1 hu0 hu1 hroom').mono ?_; rintro e w2 ⟨rfl, k, rfl⟩) | (go_at_call 62; refine (put_any d f _ _ _ _ _ _ _ _ v bs dur ad m c nw (w1.drewN k) hI.at_ ⟨hf1.at_, hf1.row⟩ hm hn1.out hl hu0 hu1).mono ?_; rintro e w3 ⟨rfl, v', hf3, hd3, hv3, hk3⟩))
    go_ret
    exact ⟨rfl, v', hf3, HF.out w1 w3 k v' hI hk hf1 hd3 hv3 hk3⟩

end Go.Proofs.Ytipakfdebccchaa
