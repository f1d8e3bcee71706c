/- DiskNames, walked. -/
import Derived.Test.YtihoccaaecmcfaaWe
namespace Go.Proofs.Ytihoccaaecmcfaa
open Go.RowKit Go.Maps Go.Sort
open Go.WideMaps Go.WideElems

/-- A disk on which nothing waits: no fault, no stop. -/
structure Calm (w0 w : World) (d : Nat) (s : St) (k : Nat) : Prop where
  disk : IsDisk w d s
  ops : s.ops = k
  stop : s.stop = -1
  F : s.F = .map []
  n : s.n ≤ k
  pend : s.pend.length ≤ k
  lo : ∀ i, s.own d i → w0.heap.size ≤ i
  bel : Below w0.heap.size w0 w

theorem Calm.err {w0 w : World} {d : Nat} {s : St} {k : Nat} (h : Calm w0 w d s k) : s.err = 0 := by
  unfold St.err bErr
  rw [h.F, h.stop]
  rfl

theorem look_two {w : World} {b n : Nat} {D : DataW Unit} (h : w.ownsMap Try.prog 9 fileElem b n D) {s : ByteArray} (hs : s.size ≤ maxLen) : D.atKey (.string s.data.toList) .nil = .nil ∨ ∃ f : Nat, D.atKey (.string s.data.toList) .nil = .lit (.int .i64 f) := by
  obtain ⟨v, ps, _, hv⟩ := dirLook h hs
  unfold fileElem at hv
  split at hv
  · rename_i b' _
    simp at hv
    exact Or.inr ⟨b', hv.1.symm⟩
  · simp at hv
    exact Or.inl hv.1.symm
  · cases hv

theorem calm_begun {w0 w w' : World} {d : Nat} {s : St} {k : Nat} (h : Calm w0 w d s k) (hI : IsDisk w' d s.begun) (hk : Kept (s.own d) w w') : Calm w0 w' d s.begun (k + 1) :=
  ⟨hI, by show s.ops + 1 = _; rw [h.ops]; omega, by show bStop s.stop = -1; rw [h.stop]; rfl, by show s.F.del _ = _; rw [h.F]; rfl, Nat.le_trans h.n (Nat.le_succ _), Nat.le_trans h.pend (Nat.le_succ _), h.lo, h.bel.trans (hk.toBelow h.bel.size h.lo)⟩

/-- What Create answers on a calm disk. -/
theorem calm_create {w0 w : World} {d : Nat} {s : St} {k : Nat} (h : Calm w0 w d s k) (hk : k < 1000) (name : ByteArray) (hs : name.size ≤ maxLen) :
    Calls Try.prog 14 #[.pointer (some ⟨d, 0, none⟩), .string name] w fun e w' => ∃ er s', e = .returned (.int .i64 er) ∧ (rn name = false → er = 2) ∧ (rn name = true → er = 0 ∨ er = 4) ∧ Calm w0 w' d s' (k + 1) := by
  have ho : s.ops < 1000000000 := by rw [h.ops]; omega
  cases hr : rn name
  · exact (create_bad h.disk ho name h.err hs hr).mono fun e w' ⟨he, hI, hk'⟩ => ⟨2, _, he, fun _ => rfl, fun e => (by cases e), calm_begun h hI hk'⟩
  · rcases look_two h.disk.mN hs with hat | ⟨f, hat⟩
    · have h64 := (rn_size hr).2
      have hn := h.n
      have hp := h.pend
      refine (create_new h.disk ho name h.err (by omega) (by omega) hr (by omega) hat).mono fun e w' ⟨he, f, pv', hf, hI, _, hpv, hk'⟩ => ⟨0, { s.begun with N := s.N.put (.string name.data.toList) (.lit (.int .i64 f)), pend := s.pend ++ [(ByteArray.empty, name, some ⟨f, 0, none⟩)], pv := pv', n := s.n + 1 }, he, fun e => (by cases e), fun _ => Or.inl rfl, ?_⟩
      have hb := h.bel.trans (hk'.toBelow h.bel.size h.lo)
      refine ⟨hI, by show s.ops + 1 = _; rw [h.ops]; omega, by show bStop s.stop = -1; rw [h.stop]; rfl, by show s.F.del _ = _; rw [h.F]; rfl, by show s.n + 1 ≤ _; omega, by simp; omega, fun i hi => ?_, hb⟩
      rcases hi with e | e | e | e | e
      · exact h.lo i (Or.inl e)
      · exact h.lo i (Or.inr (Or.inl e))
      · exact h.lo i (Or.inr (Or.inr (Or.inl e)))
      · exact h.lo i (Or.inr (Or.inr (Or.inr (Or.inl e))))
      · have e' : pv'.ownBlock = some i := e
        rcases hpv with q | ⟨g, q, hg⟩
        · exact h.lo i (Or.inr (Or.inr (Or.inr (Or.inr (by rw [← q]; exact e')))))
        · rw [e'] at q
          cases q
          exact Nat.le_trans h.bel.size hg
    · exact (create_there h.disk ho name h.err f hs hr hat).mono fun e w' ⟨he, hI, hk'⟩ => ⟨4, _, he, fun e => (by cases e), fun _ => Or.inr rfl, calm_begun h hI hk'⟩

theorem calm_new {w0 w1 : World} {c : Int} (hI : IsDisk w1 (w0.heap.size + 3) (newSt c w0.heap.size)) (hb : Below w0.heap.size w0 w1) : Calm w0 w1 (w0.heap.size + 3) (newSt c w0.heap.size) 0 :=
  ⟨hI, rfl, rfl, rfl, Nat.le_refl _, Nat.le_refl _, fun i hi => by
    rcases hi with e | e | e | e | e
    · omega
    · exact Nat.le_of_eq e.symm
    · exact e ▸ (show w0.heap.size ≤ w0.heap.size + 1 by omega)
    · exact e ▸ (show w0.heap.size ≤ w0.heap.size + 2 by omega)
    · exact absurd e (by simp [newSt, Value.ownBlock]), hb⟩

set_option maxRecDepth 100000 in
set_option maxHeartbeats 2000000 in
theorem names_some (b off len cap : Nat) (ss : List ByteArray) (w : World) (hlt : b < w.heap.size)
    (hcell : ∀ i, i < len → w.cell? ⟨b, off + i, none⟩ = some (.string (ss.getD i ByteArray.empty))) (hsz : ∀ i, i < len → (ss.getD i ByteArray.empty).size ≤ maxLen) :
    Calls Try.prog 7 #[.slice (some ⟨b, off, none⟩) len cap] w fun e w' => e = .returned (.bool true) ∧ Below w.heap.size w w' := by
  have HC : Hid (∀ i, i < len → w.cell? ⟨b, off + i, none⟩ = some (.string (ss.getD i ByteArray.empty))) := hcell
  have HS : Hid (∀ i, i < len → (ss.getD i ByteArray.empty).size ≤ maxLen) := hsz
  clear hcell hsz
  go_enter Try.func7, Try.ntmps7
  go_wp2_with (go_at_call 8; refine (new_any 10 _).mono ?_; rintro e w1 ⟨rfl, hI1, hb1⟩)
  go_loopw [4] (fun i wr => ∃ (k : Nat) (s : St), k ≤ len ∧ k ≤ 100 ∧ i = .int .i64 k ∧ Calm w wr (w.heap.size + 3) s k) (fun i _ => 100 - (intOf i).toNat)
  case atStart => exact ⟨0, _, Nat.zero_le _, Nat.zero_le _, rfl, calm_new hI1 hb1⟩
  case round =>
    obtain ⟨k, s, hk, hk1, rfl, hC⟩ := hrel
    by_cases hlk : k < len
    · by_cases h100 : k < 100
      · have hc := HC.out k hlk
        have hsk := HS.out k hlk
        generalize ss.getD k ByteArray.empty = nm at *
        have hcr : wr.cell? ⟨b, off + k, none⟩ = some (.string nm) := by rw [hC.bel.cell (p := ⟨b, off + k, none⟩) hlt]; exact hc
        have HR : Hid (∀ w', Below w.heap.size w w' → w'.cell? ⟨b, off + k, none⟩ = some (.string nm)) := fun w' hb' => by rw [hb'.cell (p := ⟨b, off + k, none⟩) hlt]; exact hc
        clear hc
        have hcre := calm_create hC (by omega) nm hsk
        cases hr : rn nm
        · go_wp2_with (first | (go_at_call 14; refine hcre.mono ?_; rintro e w2 ⟨er, s', rfl, h1, h2, hC'⟩; obtain rfl := h1 hr; have hc2 := HR.out w2 hC'.bel) | (go_at_call 31; refine (refRight_any _ _ hsk).mono ?_; rintro e w2 ⟨rfl, rfl⟩))
          go_roundw
          case rel => exact ⟨k + 1, s', by omega, by omega, by go_num, hC'⟩
          case measure => simp [intOf]; omega
        · go_wp2_with (first | (go_at_call 14; refine hcre.mono ?_; rintro e w2 ⟨er, s', rfl, h1, h2, hC'⟩; have hc2 := HR.out w2 hC'.bel; rcases h2 hr with rfl | rfl) | (go_at_call 31; refine (refRight_any _ _ hsk).mono ?_; rintro e w2 ⟨rfl, rfl⟩))
          all_goals
            go_roundw
            case rel => exact ⟨k + 1, s', by omega, by omega, by go_num, hC'⟩
            case measure => simp [intOf]; omega
      · go_wp2_with (go_at_call 13; refine (wakes_any _).mono ?_; rintro e w9 ⟨rfl, hb9⟩)
        go_ret
        exact ⟨rfl, hC.bel.trans (hb9.mono hC.bel.size)⟩
    · go_wp2_with (go_at_call 13; refine (wakes_any _).mono ?_; rintro e w9 ⟨rfl, hb9⟩)
      go_ret
      exact ⟨rfl, hC.bel.trans (hb9.mono hC.bel.size)⟩

end Go.Proofs.Ytihoccaaecmcfaa
