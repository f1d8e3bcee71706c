/- Texts that belong together. -/
import Derived.Test.YtipakfdebccchaaMWo
import Derived.Test.YtipakfdebccchaaMWd
/- Append: bytes put, all or, where it is torn, their first half. -/
namespace Go.Proofs.Ytipakfdebccchaa
open Go.RowKit Go.Maps
open Go.WideMaps Go.WideElems

/-- What put leaves is a disk. -/
theorem put_is {w w1 w3 : World} {d f k q : Nat} {s : St} {v v' : Value} {bs : List UInt8} {dur : Int} (h : IsDisk w d s) (hI : IsDisk w1 d s.begun) (hk : Kept (fun k => k = d ∨ k = s.fb) w w1) (hf1 : FileAt w1 f v bs dur) (hrow : ∀ k, v.ownBlock = some k → ¬ s.own d k)
    (hd3 : DiskAt w3 d s.cap (s.used + q) s.begun.ops s.nb s.db s.pv s.fb s.begun.stop) (hv3 : v'.ownBlock = v.ownBlock ∨ v'.ownBlock = some (w1.drewN k).heap.size) (hk3 : Kept (fun k => k = d ∨ k = f ∨ v.ownBlock = some k) (w1.drewN k) w3) :
    IsDisk w3 d { s.begun with used := s.used + q } ∧ (v'.ownBlock = v.ownBlock ∨ ∃ g, v'.ownBlock = some g ∧ w.heap.size ≤ g) ∧ Kept (fun k => s.own d k ∨ k = f ∨ v.ownBlock = some k) w w3 := by
  refine ⟨⟨hd3, ?_, ?_, ?_, ?_, h.nd, h.nf, h.df, hI.o0, hI.s0, hI.s1⟩, ?_, ?_⟩
  · exact hk3.ownsMap (b := s.nb) hI.mN (fun e => by
      rcases e with e | e | e
      · exact hI.at_.ne_map hI.mN e.symm
      · exact hf1.ne_map hI.mN e.symm
      · exact map_ne_row hI.mN hf1.row e)
  · exact hk3.ownsMap (b := s.db) hI.mD (fun e => by
      rcases e with e | e | e
      · exact hI.at_.ne_map hI.mD e.symm
      · exact hf1.ne_map hI.mD e.symm
      · exact map_ne_row hI.mD hf1.row e)
  · exact hk3.ownsMap (b := s.fb) hI.mF (fun e => by
      rcases e with e | e | e
      · exact hI.at_.ne_map hI.mF e.symm
      · exact hf1.ne_map hI.mF e.symm
      · exact map_ne_row hI.mF hf1.row e)
  · exact hk3.ownsRow (v := s.pv) hI.row (fun i hi e => by
      rcases e with e | e | e
      · exact hI.at_.ne_row hI.row (by decide) (e ▸ hi)
      · exact hf1.ne_row hI.row (by decide) (e ▸ hi)
      · exact hrow i e (Or.inr (Or.inr (Or.inr (Or.inr hi)))))
  · rcases hv3 with e | e
    · exact Or.inl e
    · exact Or.inr ⟨_, e, hk.size⟩
  · exact ((hk.mono (fun _ _ e => Or.inl (begun_own e))).drewN k).trans hk3 (fun i _ e => by
      rcases e with e | e
      · exact Or.inl (Or.inl e)
      · exact Or.inr e)

section
variable {w : World} {d : Nat} {s : St} (h : IsDisk w d s) (ho : s.ops < 1000000000) (name : ByteArray) (f : Nat) (v : Value) (bs : List UInt8) (dur : Int) (hf : FileAt w f v bs dur) (hrow : ∀ k, v.ownBlock = some k → ¬ s.own d k) (ad : Addr) (m c : Nat) (hmc : m ≤ c) (hcm : c ≤ maxLen) (nw : List UInt8)
  (hnews : ∀ j u, (byteVals nw)[j]? = some u → w.cell? (ad.add j) = some u) (hadr : 0 < nw.length → ¬ s.own d ad.block) (hl : bs.length + nw.length ≤ 1000000000000) (hu0 : 0 ≤ s.used) (hu1 : s.used ≤ 1000000000000)
  (HFR : Hid (∀ W, IsDisk W d s.begun → Calls Try.prog 61 #[.pointer (some ⟨d, 0, none⟩), .string name, .int .i64 m] W fun e w' => e = .returned (.tuple #[.pointer (some ⟨f, 0, none⟩), .int .i64 0]) ∧ ∃ k, w' = W.drewN k))
include h ho hf hrow hmc hcm hnews hadr hl hu0 hu1 HFR

omit ho hmc hcm hl hu0 hu1 HFR in
theorem append_ready : Hid (∀ w1, Kept (fun k => k = d ∨ k = s.fb) w w1 → FileAt w1 f v bs dur ∧ (∀ j u, (byteVals nw)[j]? = some u → w1.cell? (ad.add j) = some u)) := fun w1 k => by
  refine ⟨hf.kept k (fun e => e.elim (hf.ne_disk h.at_) (hf.ne_map h.mF)) (fun i hi e => hrow i hi (begun_own e)), fun j u hj => ?_⟩
  have hj' := (List.getElem?_eq_some_iff.1 hj).1
  rw [byteVals_length] at hj'
  have hb : (ad.add j).block = ad.block := by unfold Addr.add; split <;> rfl
  have hc := hnews j u hj
  have hlt := World.block_lt_of_cell? w _ hc
  rw [World.cell?_of_block (w := w) (w' := w1) (a := ad.add j) (k.block _ hlt (fun e => hadr (by omega) (begun_own (by rw [hb] at e; exact e))))]
  exact hc
omit hmc hcm in
set_option maxRecDepth 100000 in
set_option maxHeartbeats 1000000 in
theorem append_puts (hE : s.err = 0) (hm : nw.length = m) :
    Calls Try.prog 34 #[.pointer (some ⟨d, 0, none⟩), .string name, .slice (some ad) m c] w fun e w' => e = .returned (.int .i64 0) ∧
      ∃ v', FileAt w' f v' (bs ++ nw) dur ∧ IsDisk w' d { s.begun with used := s.used + m } ∧ (v'.ownBlock = v.ownBlock ∨ ∃ g, v'.ownBlock = some g ∧ w.heap.size ≤ g) ∧ Kept (fun k => s.own d k ∨ k = f ∨ v.ownBlock = some k) w w' := by
  have hbeg := begin_torn h ho
  have HB := append_ready h f v bs dur hf hrow ad nw hnews hadr
  have hT : s.torn = false := by
    cases e : s.torn
    · rfl
    · have := torn_err e; omega
  rw [hE, hT] at hbeg
  have HR : Hid (∀ k, v.ownBlock = some k → ¬ s.own d k) := hrow
  clear hf hnews hrow hadr
  go_enter Try.func34, Try.ntmps34
  go_wp2_with (first | (go_at_call 59; refine hbeg.mono ?_; rintro e w1 ⟨rfl, hI, hk⟩; obtain ⟨hf1, hn1⟩ := HB.out _ hk; replace hn1 : Hid (∀ j u, (byteVals nw)[j]? = some u → w1.cell? (ad.add j) = some u) := hn1) | (go_at_call 61; refine (HFR.out _ hI).mono ?_; rintro e w2 ⟨rfl, k, rfl⟩) | (go_at_call 62; refine (put_any d f _ _ _ _ _ _ _ _ v bs dur ad m c nw (w1.drewN k) hI.at_ ⟨hf1.at_, hf1.row⟩ hm hn1.out (by omega) hu0 hu1).mono ?_; rintro e w3 ⟨rfl, v', hf3, hd3, hv3, hk3⟩))
  go_ret
  exact ⟨rfl, v', hf3, put_is h hI hk hf1 HR.out hd3 hv3 hk3⟩
set_option maxRecDepth 100000 in
set_option maxHeartbeats 1000000 in
theorem append_tears (hT : s.torn = true) (hm : nw.length = m / 2) :
    Calls Try.prog 34 #[.pointer (some ⟨d, 0, none⟩), .string name, .slice (some ad) m c] w fun e w' => e = .returned (.int .i64 6) ∧
      ∃ v', FileAt w' f v' (bs ++ nw) dur ∧ IsDisk w' d { s.begun with used := s.used + (m / 2 : Nat) } ∧ (v'.ownBlock = v.ownBlock ∨ ∃ g, v'.ownBlock = some g ∧ w.heap.size ≤ g) ∧ Kept (fun k => s.own d k ∨ k = f ∨ v.ownBlock = some k) w w' := by
  have hbeg := begin_torn h ho
  have HB := append_ready h f v bs dur hf hrow ad nw hnews hadr
  rw [torn_err hT, hT] at hbeg
  have HR : Hid (∀ k, v.ownBlock = some k → ¬ s.own d k) := hrow
  obtain ⟨q, hq⟩ : ∃ q, q = m / 2 := ⟨_, rfl⟩
  rw [← hq] at hm ⊢
  have hqm : q ≤ m := by omega
  have hqi : (m : Int).tdiv 2 = (q : Int) := by rw [Int.tdiv_eq_ediv_of_nonneg (by omega)]; omega
  have hqi2 : (m : Int) / 2 = (q : Int) := by omega
  have hqc : (q : Int) ≤ (c : Int) := by omega
  have hmx : (c : Int) ≤ 9223372036854775807 := by unfold maxLen at hcm; omega
  clear hf hnews hrow hadr hq
  go_enter Try.func34, Try.ntmps34
  go_wp2_with (first | (go_at_call 59; refine hbeg.mono ?_; rintro e w1 ⟨rfl, hI, hk⟩; obtain ⟨hf1, hn1⟩ := HB.out _ hk; replace hn1 : Hid (∀ j u, (byteVals nw)[j]? = some u → w1.cell? (ad.add j) = some u) := hn1) | (go_at_call 61; refine (HFR.out _ hI).mono ?_; rintro e w2 ⟨rfl, k, rfl⟩) | (go_at_call 62; refine (put_any d f _ _ _ _ _ _ _ _ v bs dur ad q c nw (w1.drewN k) hI.at_ ⟨hf1.at_, hf1.row⟩ hm hn1.out (by omega) hu0 hu1).mono ?_; rintro e w3 ⟨rfl, v', hf3, hd3, hv3, hk3⟩))
  go_ret
  exact ⟨rfl, v', hf3, put_is h hI hk hf1 HR.out hd3 hv3 hk3⟩
end

end Go.Proofs.Ytipakfdebccchaa

/- What List and Durable tell. -/
namespace Go.Proofs.Ytipakfdebccchaa
open Go.RowKit Go.Maps Go.Sort

section
variable {w : World} {d : Nat} {s : St} (h : IsDisk w d s) (hn : s.n < 1000000000)
include h hn
set_option maxHeartbeats 1000000 in
theorem list_any (p : ByteArray) : Calls Try.prog 12 #[.pointer (some ⟨d, 0, none⟩), .string p] w fun e w' => ∃ v, e = .returned v ∧
      w'.ownsRow w.heap.size 9 1 v (risen s.N p.data.toList).length ((risen s.N p.data.toList).map encStr) ∧ Below w.heap.size w w' := by
  obtain ⟨c0, c1, c2, c3, c4, c5, c6, c7, cf⟩ := h.at_.cells
  have HR : Hid (Calls Try.prog 39 #[.map (some s.nb), .string p] w fun e w' => ∃ v, e = .returned v ∧ w'.ownsRow w.heap.size 9 1 v (risen s.N p.data.toList).length ((risen s.N p.data.toList).map encStr) ∧ Below w.heap.size w w') := rising_any s.nb s.n p s.N w h.mN hn
  clear cf
  go_enter Try.func12, Try.ntmps12
  go_wp2_with (go_at_call 39; refine HR.out.mono ?_; clear HR; rintro e w1 ⟨v, rfl, hr, hb⟩)
  go_ret
  exact ⟨v, rfl, hr, hb⟩
set_option maxHeartbeats 1000000 in
theorem durable_any : Calls Try.prog 15 #[.pointer (some ⟨d, 0, none⟩)] w fun e w' => ∃ v, e = .returned v ∧
      w'.ownsRow w.heap.size 9 1 v (risen s.D []).length ((risen s.D []).map encStr) ∧ Below w.heap.size w w' := by
  obtain ⟨c0, c1, c2, c3, c4, c5, c6, c7, cf⟩ := h.at_.cells
  have HR : Hid (Calls Try.prog 39 #[.map (some s.db), .string ⟨#[]⟩] w fun e w' => ∃ v, e = .returned v ∧ w'.ownsRow w.heap.size 9 1 v (risen s.D []).length ((risen s.D []).map encStr) ∧ Below w.heap.size w w') := rising_any s.db s.n ⟨#[]⟩ s.D w h.mD hn
  clear cf
  go_enter Try.func15, Try.ntmps15
  go_wp2_with (go_at_call 39; refine HR.out.mono ?_; clear HR; rintro e w1 ⟨v, rfl, hr, hb⟩)
  go_ret
  exact ⟨v, rfl, hr, hb⟩
end

end Go.Proofs.Ytipakfdebccchaa

/- How much is used. -/
namespace Go.Proofs.Ytipakfdebccchaa
open Go.RowKit Go.Maps Go.Sort
open Go.WideMaps Go.WideElems

section
variable {w : World} {d : Nat} {s : St} (h : IsDisk w d s) (name : ByteArray)
include h
set_option maxHeartbeats 1000000 in
theorem used_any : Calls Try.prog 29 #[.pointer (some ⟨d, 0, none⟩)] w fun e w' => e = .returned (.int .i64 s.used) ∧ w' = w := by
  obtain ⟨c0, c1, c2, c3, c4, c5, c6, c7, cf⟩ := h.at_.cells
  go_enter Try.func29, Try.ntmps29
  go_wp2
  go_ret
  exact ⟨rfl, rfl⟩
end

end Go.Proofs.Ytipakfdebccchaa
