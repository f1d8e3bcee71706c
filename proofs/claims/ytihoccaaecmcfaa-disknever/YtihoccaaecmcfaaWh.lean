/- Steps of a disk with one file that is looked at. -/
import Derived.Test.YtihoccaaecmcfaaWg
namespace Go.Proofs.Ytihoccaaecmcfaa
open Go.RowKit Go.Maps Go.Sort
open Go.WideMaps Go.WideElems

set_option maxRecDepth 100000 in
set_option maxHeartbeats 1000000 in
theorem append_nil {w : World} {d : Nat} {s : St} (h : IsDisk w d s) (ho : s.ops < 1000000000) (hE : s.err = 0) (name : ByteArray) (hr : rn name = true) (hs : name.size ≤ maxLen) (f : Nat) (hat : s.N.atKey (.string name.data.toList) .nil = .lit (.int .i64 f))
    (v : Value) (bs : List UInt8) (dur : Int) (hf : FileAt w f v bs dur) (hrow : ∀ k, v.ownBlock = some k → ¬ s.own d k) (hu0 : 0 ≤ s.used) (hu1 : s.used ≤ 1000000000000) :
    Calls Try.prog 15 #[.pointer (some ⟨d, 0, none⟩), .string name, .slice none 0 0] w fun e w' => e = .returned (.int .i64 0) ∧
      FileAt w' f v bs dur ∧ IsDisk w' d s.begun ∧ Kept (fun k => s.own d k ∨ k = f) w w' := by
  obtain ⟨cc, _, hbeg⟩ := begin_is h ho
  rw [hE, torn_of_ok hE] at hbeg
  have HA : Hid (s.N.atKey (.string name.data.toList) .nil = .lit (.int .i64 f)) := hat
  clear hat
  have HB : Hid (∀ w1, Kept (fun k => k = d ∨ k = s.fb) w w1 → FileAt w1 f v bs dur) := fun w1 k => hf.kept k (fun e => e.elim (hf.ne_disk h.at_) (hf.ne_map h.mF)) (fun i hi e => hrow i hi (begun_own e))
  clear hf
  go_enter Try.func15, Try.ntmps15
  go_wp2_with (first | (go_at_call 44; refine hbeg.mono ?_; rintro e w1 ⟨rfl, hI, hk⟩; have hf1 := HB.out _ hk) | (go_at_call 47; refine (findRoom_zero d f _ _ _ _ _ _ _ _ _ _ name _ hs hr hI.at_ hI.mN HA.out).mono ?_; rintro e w2 ⟨rfl, k, rfl⟩) | (go_at_call 48; refine (put_nil d f _ _ _ _ _ _ _ _ v bs dur (w1.drewN k) hI.at_ ⟨hf1.at_, hf1.row⟩ hu0 hu1).mono ?_; rintro e w3 ⟨rfl, hf3, hd3, hk3⟩))
  go_ret
  refine ⟨rfl, hf3, ⟨hd3, ?_, ?_, ?_, ?_, h.nd, h.nf, h.df, hI.o0, hI.s0, hI.s1⟩, ((hk.mono (fun _ _ e => Or.inl (begun_own e))).drewN k).trans hk3 (fun i _ e => e.elim (fun e => Or.inl (Or.inl e)) Or.inr)⟩
  · exact hk3.ownsMap (b := s.nb) hI.mN (fun e => e.elim (fun e => hI.at_.ne_map hI.mN e.symm) (fun e => hf1.ne_map hI.mN e.symm))
  · exact hk3.ownsMap (b := s.db) hI.mD (fun e => e.elim (fun e => hI.at_.ne_map hI.mD e.symm) (fun e => hf1.ne_map hI.mD e.symm))
  · exact hk3.ownsMap (b := s.fb) hI.mF (fun e => e.elim (fun e => hI.at_.ne_map hI.mF e.symm) (fun e => hf1.ne_map hI.mF e.symm))
  · exact hk3.ownsRow (v := s.pv) hI.row (fun i hi e => e.elim (fun e => hI.at_.ne_row hI.row (by decide) (e ▸ hi)) (fun e => hf1.ne_row hI.row (by decide) (e ▸ hi)))

theorem wkg_append {w0 w : World} {d f : Nat} {s : St} {x : FileV} (h : Wk w0 w d f s x) (ho : s.ops < 1000000000) (hE : s.err = 0) (name : ByteArray) (hr : rn name = true) (hs : name.size ≤ maxLen) (hat : s.N.atKey (.string name.data.toList) .nil = .lit (.int .i64 f))
    (av : Value) (nw : List UInt8) (hb : BytesAt w av nw) (hlow : ∀ b, av.ownBlock = some b → nw ≠ [] → b < w0.heap.size) (hl : x.bs.length + nw.length ≤ 1000000000) (hc0 : 0 ≤ s.cap) (hc1 : s.cap ≤ 1000000000000) (hu0 : 0 ≤ s.used) (hu1 : s.used ≤ 1000000000000) (hroom : (nw.length : Int) ≤ s.cap - s.used ∨ nw.length = 0) :
    Calls Try.prog 15 #[.pointer (some ⟨d, 0, none⟩), .string name, av] w fun e w' => e = .returned (.int .i64 0) ∧ ∃ v', Wk w0 w' d f { s.begun with used := s.used + nw.length } ⟨v', x.bs ++ nw, x.dur⟩ := by
  rcases hb with ⟨rfl, rfl⟩ | ⟨ad, c, rfl, _, _, hcell⟩
  · refine (append_nil h.disk ho hE name hr hs f hat x.v x.bs x.dur h.file h.row hu0 hu1).mono fun e w' ⟨he, hf, hI, hk⟩ => ⟨he, x.v, ?_, ?_, h.row, h.lo, h.lof, h.lor, h.bel.trans (hk.toBelow h.bel.size (fun i e => e.elim (h.lo i) (fun e => e ▸ h.lof)))⟩
    · have e : s.used + (([] : List UInt8).length : Int) = s.used := by simp
      rw [e]
      exact hI
    · simpa using hf
  · refine (append_ok h.disk ho hE name hr hs f hat x.v x.bs x.dur h.file h.row ad nw.length c nw rfl hcell (fun hm ho' => ?_) (by omega) hc0 hc1 hu0 hu1 hroom).mono fun e w' ⟨he, v', hf, hI, hv, hk⟩ => ⟨he, v', hI, hf, fun k hk' ho' => ?_, h.lo, h.lof, fun k hk' => ?_, h.bel.trans (hk.toBelow h.bel.size (fun i e => ?_))⟩
    · have := h.lo _ ho'
      have := hlow ad.block rfl (fun e => by subst e; simp at hm)
      omega
    · have hk2 : v'.ownBlock = some k := hk'
      rcases hv with e | ⟨g, e, hg⟩
      · exact h.row k (by rw [← e]; exact hk2) ho'
      · rw [e] at hk2
        cases hk2
        have := h.disk.lt _ ho'
        omega
    · have hk2 : v'.ownBlock = some k := hk'
      rcases hv with e | ⟨g, e, hg⟩
      · exact h.lor k (by rw [← e]; exact hk2)
      · rw [e] at hk2
        cases hk2
        exact Nat.le_trans h.bel.size hg
    · rcases e with e | e | e
      · exact h.lo i e
      · exact e ▸ h.lof
      · exact h.lor i e

theorem wkg_sync {w0 w : World} {d f : Nat} {s : St} {x : FileV} (h : Wk w0 w d f s x) (ho : s.ops < 1000000000) (hE : s.err = 0) (name : ByteArray) (hr : rn name = true) (hs : name.size ≤ maxLen) (hat : s.N.atKey (.string name.data.toList) .nil = .lit (.int .i64 f)) :
    Calls Try.prog 16 #[.pointer (some ⟨d, 0, none⟩), .string name] w fun e w' => e = .returned (.int .i64 0) ∧ Wk w0 w' d f s.begun ⟨x.v, x.bs, x.bs.length⟩ :=
  (sync_ok h.disk ho hE name hr hs f hat x.v x.bs x.dur h.file h.row).mono fun _e _w' ⟨he, hf, hI, hk⟩ => ⟨he, ⟨hI, hf, h.row, h.lo, h.lof, h.lor, h.bel.trans (hk.toBelow h.bel.size (fun i e => e.elim (h.lo i) (fun e => e ▸ h.lof)))⟩⟩

theorem Wk.ne_own {w0 w : World} {d f : Nat} {s : St} {x : FileV} (h : Wk w0 w d f s x) : ¬ s.own d f := fun ho => by
  rcases ho with e | e | e | e | e
  · exact h.file.ne_disk h.disk.at_ e
  · exact h.file.ne_map h.disk.mN e
  · exact h.file.ne_map h.disk.mD e
  · exact h.file.ne_map h.disk.mF e
  · exact h.file.ne_row h.disk.row (by decide) e

theorem wkg_syncDir {w0 w : World} {d f : Nat} {s : St} {x : FileV} (h : Wk w0 w d f s x) (ho : s.ops < 1000000000) (hE : s.err = 0) (hb : s.n + s.pend.length < 1000000000) (hok : ∀ c ∈ s.pend, OkCh c) :
    Calls Try.prog 17 #[.pointer (some ⟨d, 0, none⟩)] w fun e w' => e = .returned (.int .i64 0) ∧ Wk w0 w' d f { s.begun with D := foldD s.D s.pend, pend := [], pv := .slice none 0 0, n := s.n + s.pend.length } x := by
  refine (syncDir_ok h.disk ho hE hb hok).mono fun e w' ⟨he, hI, hk⟩ => ⟨he, ?_⟩
  have sub : ∀ k, ({ s.begun with D := foldD s.D s.pend, pend := [], pv := .slice none 0 0, n := s.n + s.pend.length } : St).own d k → s.own d k := fun k hk' => by
    rcases hk' with h | h | h | h | h
    · exact Or.inl h
    · exact Or.inr (Or.inl h)
    · exact Or.inr (Or.inr (Or.inl h))
    · exact Or.inr (Or.inr (Or.inr (Or.inl h)))
    · cases h
  exact ⟨hI, h.file.kept hk h.ne_own (fun k hk' ho' => h.row k hk' ho'), fun k hk' ho' => h.row k hk' (sub k ho'), fun k hk' => h.lo k (sub k hk'), h.lof, h.lor, h.bel.trans (hk.toBelow h.bel.size h.lo)⟩

theorem wkg_create {w0 w : World} {d f : Nat} {s : St} {x : FileV} (h : Wk w0 w d f s x) (ho : s.ops < 1000000000) (hE : s.err = 0) (name : ByteArray) (hn : s.n < 1000000000) (hl : s.pend.length < 1000000000) (hr : rn name = true) (hs : name.size ≤ 1000000) (hat : s.N.atKey (.string name.data.toList) .nil = .nil) :
    Calls Try.prog 14 #[.pointer (some ⟨d, 0, none⟩), .string name] w fun e w' => e = .returned (.int .i64 0) ∧ ∃ g pv', g ≠ f ∧ Wk w0 w' d f { s.begun with N := s.N.put (.string name.data.toList) (.lit (.int .i64 g)), pend := s.pend ++ [(ByteArray.empty, name, some ⟨g, 0, none⟩)], pv := pv', n := s.n + 1 } x ∧
      FileAt w' g (.slice none 0 0) [] 0 ∧ w0.heap.size ≤ g := by
  refine (create_new h.disk ho name hE hn hl hr hs hat).mono fun e w' ⟨he, g, pv', hg, hI, hgf, hpv, hk⟩ => ⟨he, g, pv', ?_, ?_, ⟨hgf, World.ownsRow_nil _ _ _ _⟩, Nat.le_trans h.bel.size hg⟩
  · have := (Array.getElem?_eq_some_iff.1 h.file.at_).1
    omega
  · refine ⟨hI, h.file.kept hk h.ne_own (fun k hk' ho' => h.row k hk' ho'), fun k hk' ho' => ?_, fun k hk' => ?_, h.lof, h.lor, h.bel.trans (hk.toBelow h.bel.size h.lo)⟩
    · rcases ho' with e | e | e | e | e
      · exact h.row k hk' (Or.inl e)
      · exact h.row k hk' (Or.inr (Or.inl e))
      · exact h.row k hk' (Or.inr (Or.inr (Or.inl e)))
      · exact h.row k hk' (Or.inr (Or.inr (Or.inr (Or.inl e))))
      · have e' : pv'.ownBlock = some k := e
        rcases hpv with q | ⟨g', q, hg'⟩
        · exact h.row k hk' (Or.inr (Or.inr (Or.inr (Or.inr (by rw [← q]; exact e')))))
        · rw [e'] at q
          cases q
          have := (h.file.row.lt k hk').2
          omega
    · rcases hk' with e | e | e | e | e
      · exact h.lo k (Or.inl e)
      · exact h.lo k (Or.inr (Or.inl e))
      · exact h.lo k (Or.inr (Or.inr (Or.inl e)))
      · exact h.lo k (Or.inr (Or.inr (Or.inr (Or.inl e))))
      · have e' : pv'.ownBlock = some k := e
        rcases hpv with q | ⟨g', q, hg'⟩
        · exact h.lo k (Or.inr (Or.inr (Or.inr (Or.inr (by rw [← q]; exact e')))))
        · rw [e'] at q
          cases q
          exact Nat.le_trans h.bel.size hg'

set_option maxRecDepth 100000 in
set_option maxHeartbeats 1000000 in
theorem begins_yes (va vb : Value) (a b : List UInt8) (w : World) (ha : BytesAt w va a) (hb : BytesAt w vb b) (hp : a <+: b) (_hl : b.length ≤ 1000000000) :
    Calls Try.prog 20 #[va, vb] w fun e w' => e = .returned (.bool true) ∧ ∃ k, w' = w.drewN k := by
  obtain ⟨aa, ca, rfl, ha1, ha2⟩ := ha.shape
  obtain ⟨ab, cb, rfl, hb1, hb2⟩ := hb.shape
  have hle := hp.length_le
  have htk : b.take a.length = a := (List.prefix_iff_eq_take.1 hp).symm
  have hA : ∀ k, (convert 31 9 (.slice aa a.length ca)).run Try.prog (w.drewN k) = .ok (.string ⟨a.toArray⟩) (w.drewN k) := fun k => BytesAt.str (w := w.drewN k) ha
  have hB : ∀ k, (convert 31 9 (.slice ab a.length cb)).run Try.prog (w.drewN k) = .ok (.string ⟨a.toArray⟩) (w.drewN k) := fun k => by
    have := BytesAt.str (w := w.drewN k) (hb.cut hle)
    rw [htk] at this
    exact this
  have h1 : (a.length : Int) ≤ (b.length : Int) := by omega
  have h2 : a.length ≤ cb := by omega
  have h3 : (a.length : Int) ≤ (cb : Int) := by omega
  clear ha hb htk hp
  go_enter Try.func20, Try.ntmps20
  go_wp2_with fail
  go_quiet (fail)
  go_wp2
  go_ret
  exact ⟨ret_bool (by simp), nq, rfl⟩

end Go.Proofs.Ytihoccaaecmcfaa
