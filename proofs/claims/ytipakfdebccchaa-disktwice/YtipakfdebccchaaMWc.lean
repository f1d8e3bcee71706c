/- Crash. -/
import Derived.Test.YtipakfdebccchaaMW9
import Derived.Deep.CutRange
import Derived.StillTailTactics
namespace Go.Proofs.Ytipakfdebccchaa
open Go.RowKit Go.Maps Go.Sort
open Go.WideMaps Go.WideElems

theorem strKeys_length (D : DataW Unit) (h : IsMap D) : (strKeys D).length = Maps.size D := by
  obtain ⟨es, rfl⟩ := h
  simp [strKeys, Maps.size]
theorem risen_length (D : DataW Unit) (h : IsMap D) (p : List UInt8) : (risen D p).length ≤ Maps.size D := by
  unfold risen
  rw [List.length_mergeSort, ← strKeys_length D h]
  exact List.length_filter_le _ _
theorem mem_risen {D : DataW Unit} {x : List UInt8} {p : List UInt8} (h : x ∈ risen D p) : x ∈ strKeys D := by
  unfold risen at h
  rw [List.mem_mergeSort] at h
  exact (List.mem_filter.1 h).1

theorem CutsAt.kept {w w' : World} {cv : Value} {cs : List Int} (h : CutsAt w cv cs) {O : Nat → Prop} (k : Kept O w w') (hO : ∀ b o l c, cv = .slice (some ⟨b, o, none⟩) l c → cs ≠ [] → ¬ O b) : CutsAt w' cv cs := by
  refine ⟨h.shape, fun j x hj => ?_⟩
  obtain ⟨b, o, l, c, e, hc⟩ := h.cells j x hj
  refine ⟨b, o, l, c, e, ?_⟩
  have hlt := World.block_lt_of_cell? w _ hc
  rw [World.cell?_of_block (w := w) (w' := w') (a := ⟨b, o + j, none⟩) (k.block b hlt (hO b o l c e (fun e => by subst e; simp at hj)))]
  exact hc

/-- The state in which the loop of Crash goes round. -/
def St.mid (s : St) (c0 : Nat) (u : Int) : St := { s with D := foldD s.D (s.pend.take c0), pend := [], pv := .slice none 0 0, n := s.n + c0, used := u }

theorem mid_own {s : St} {c0 : Nat} {u : Int} {d i : Nat} (h : (s.mid c0 u).own d i) : s.own d i := by
  rcases h with h | h | h | h | h
  · exact Or.inl h
  · exact Or.inr (Or.inl h)
  · exact Or.inr (Or.inr (Or.inl h))
  · exact Or.inr (Or.inr (Or.inr (Or.inl h)))
  · cases h

theorem IsDisk.set1 {w : World} {d : Nat} {s : St} (h : IsDisk w d s) (u : Int) : IsDisk (w.setCell ⟨d, 1, none⟩ (.int .i64 u)) d { s with used := u } := by
  have k : Kept (fun i => i = d) w (w.setCell ⟨d, 1, none⟩ (.int .i64 u)) := (Kept.refl (fun i => i = d) w).setCell (fun _ => rfl) _
  exact ⟨h.at_.set1 u, k.ownsMap h.mN (fun e => h.at_.ne_map h.mN e.symm), k.ownsMap h.mD (fun e => h.at_.ne_map h.mD e.symm), k.ownsMap h.mF (fun e => h.at_.ne_map h.mF e.symm),
    k.ownsRow h.row (fun i hi e => h.at_.ne_row h.row (by decide) (e ▸ hi)), h.nd, h.nf, h.df, h.o0, h.s0, h.s1⟩

theorem Files.kept {w w' : World} {d : Nat} {s s' : St} {L : List Nat} {fs : Nat → FileV} (h : Files w d s L fs) {O : Nat → Prop} (k : Kept O w w') (h1 : ∀ f ∈ L, ¬ O f) (h2 : ∀ f ∈ L, ∀ i, (fs f).v.ownBlock = some i → ¬ O i) (h3 : ∀ i, s'.own d i → s.own d i ∨ w.heap.size ≤ i) : Files w' d s' L fs :=
  ⟨fun f hf => (h.at_ f hf).kept k (h1 f hf) (h2 f hf), h.le, h.rows, fun f hf i hi ho => (h3 i ho).elim (h.own f hf i hi) (fun e => by have := ((h.at_ f hf).row.lt i hi).2; omega)⟩

theorem ownsRow_zero {w : World} {base : Nat} {e : TypeId} {size : Nat} {v : Value} {n : Nat} {xs : List Value} (h : w.ownsRow base e size v n xs) : w.ownsRow 0 e size v n xs := by
  refine ⟨h.1, ?_⟩
  rcases h.2 with h2 | ⟨g, cap, cur, e, _, r⟩
  · exact Or.inl h2
  · exact Or.inr ⟨g, cap, cur, e, Nat.zero_le _, r⟩

theorem ownsRow_cap {w : World} {base : Nat} {e : TypeId} {size : Nat} {a : Option Addr} {l c : Nat} {n : Nat} {xs : List Value} (h : w.ownsRow base e size (.slice a l c) n xs) : n ≤ c ∧ c ≤ maxLen := by
  rcases h.2 with ⟨e, h0⟩ | ⟨g, cap, cur, e, _, _, h1, h2, _⟩
  · cases e; exact ⟨by omega, by unfold maxLen; omega⟩
  · cases e; exact ⟨h1, h2⟩

theorem fileOf_eq {D : DataW Unit} {x : List UInt8} {f : Nat} (h : D.atKey (.string x) .nil = .lit (.int .i64 f)) : fileOf D x = f := by
  unfold fileOf
  rw [h]
  simp

theorem wrap_in {n : Int} (h1 : -9223372036854775808 ≤ n) (h2 : n ≤ 9223372036854775807) : IntKind.i64.wrap n = n := by
  rw [IntWalk.i64_left]
  exact IntWalk.wrap64_in n ⟨h1, h2⟩

theorem crashTo_len (D : DataW Unit) (cs : List Int) (ts : List (List UInt8)) (fs : Nat → FileV) (f : Nat) : ∀ k, (crashTo D cs ts fs k f).bs.length ≤ (fs f).bs.length
  | 0 => Nat.le_refl _
  | k + 1 => by
    have := crashTo_len D cs ts fs f k
    simp only [crashTo]
    split
    · simp only [FileV.crash, FileV.cut, List.length_take]
      omega
    · exact this

set_option maxRecDepth 100000 in
set_option maxHeartbeats 600000 in
theorem crash_any {w : World} {d : Nat} {s : St} (h : IsDisk w d s) {L : List Nat} {fs : Nat → FileV} (hF : Files w d s L fs) (cv : Value) (cs : List Int) (hc : CutsAt w cv cs) (hcb : ∀ b o l c, cv = .slice (some ⟨b, o, none⟩) l c → cs ≠ [] → ¬ (s.own d b ∨ b ∈ L))
    (hb : s.n + s.pend.length < 1000000000) (hok : ∀ c ∈ s.pend, OkCh c) (c0 : Nat) (hc0 : c0 = cutN cs 0 s.pend.length) (hDL : ∀ x ∈ strKeys (foldD s.D (s.pend.take c0)), ∃ f ∈ L, (foldD s.D (s.pend.take c0)).atKey (.string x) .nil = .lit (.int .i64 f))
    (hlen : ∀ f ∈ L, (fs f).bs.length ≤ 1000000000) (ts : List (List UInt8)) (hts : ts = risen (foldD s.D (s.pend.take c0)) []) :
    Calls Try.prog 11 #[.pointer (some ⟨d, 0, none⟩), cv] w fun e w' => e = .returned (.tuple #[]) ∧ ∃ nb', w.heap.size ≤ nb' ∧
      IsDisk w' d ⟨s.cap, usedTo (foldD s.D (s.pend.take c0)) cs ts fs ts.length, s.ops, -1, nb', s.db, s.fb, .slice none 0 0, s.n + c0, foldD s.D (s.pend.take c0), foldD s.D (s.pend.take c0), .map [], []⟩ ∧
      Files w' d ⟨s.cap, usedTo (foldD s.D (s.pend.take c0)) cs ts fs ts.length, s.ops, -1, nb', s.db, s.fb, .slice none 0 0, s.n + c0, foldD s.D (s.pend.take c0), foldD s.D (s.pend.take c0), .map [], []⟩ L (crashTo (foldD s.D (s.pend.take c0)) cs ts fs ts.length) ∧
      Kept (fun i => s.own d i ∨ i ∈ L) w w' := by
  have hcl : c0 ≤ s.pend.length := hc0 ▸ cutN_le cs 0 s.pend.length
  obtain ⟨pa, pc, hpv⟩ := slice_of_row h.row
  have c5 : w.cell? ⟨d, 5, none⟩ = some (.slice pa s.pend.length pc) := by rw [← hpv]; exact h.at_.cells.2.2.2.2.2.1
  have hcut := cut_any w cv cs hc 0 s.pend.length 0 s.pend.length rfl rfl (by omega)
  rw [← hc0] at hcut
  have hset := settle_is h c0 hcl hb hok
  have HC : Hid (CutsAt w cv cs) := hc
  have HDM : Hid (∀ W : World, ∀ n, W.ownsMap Try.prog 9 fileElem s.db n (foldD s.D (s.pend.take c0)) → ts.length ≤ n) := fun W n hm => by
    rw [hts]
    exact Nat.le_trans (risen_length _ hm.isMap []) hm.size_le
  have HTS : Hid (∀ x ∈ ts, ∃ f ∈ L, (foldD s.D (s.pend.take c0)).atKey (.string x) .nil = .lit (.int .i64 f)) := fun x hx => hDL x (mem_risen (hts ▸ hx))
  have HR : Hid (risen (foldD s.D (s.pend.take c0)) (ByteArray.mk #[]).data.toList = ts) := hts.symm
  clear hok hc hpv hc0 hDL hts
  generalize foldD s.D (s.pend.take c0) = D1 at *
  go_enter Try.func11, Try.ntmps11
  go_wp2_with (first | (go_at_call 38; refine hcut.mono ?_; rintro e w1 ⟨rfl, hw1⟩; subst hw1) | (go_at_call 37; refine hset.mono ?_; rintro e w2 ⟨rfl, hI2, hk2⟩; obtain ⟨d0, d1, d2, d3, d4, d5, d6, d7, df⟩ := hI2.at_.cells) | (go_at_call 39; refine (rising_any s.db (s.n + c0) (ByteArray.mk #[]) D1 _ (hI2.set1 0).mD (by omega)).mono ?_; rintro e w4 ⟨nv, rfl, hrow, hbel⟩; rw [HR.out] at hrow; obtain ⟨na, nc, rfl⟩ := slice_of_row hrow))
  have hI3 := hI2.set1 0
  have kb : Kept (fun _ => False) (w2.setCell ⟨d, 1, none⟩ (.int .i64 0)) w4 := (Kept.refl (fun _ => False) _).below hbel
  have hI4 : IsDisk w4 d ⟨s.cap, 0, s.ops, s.stop, s.nb, s.db, s.fb, .slice none 0 0, s.n + c0, s.N, D1, s.F, []⟩ := hI3.kept kb (fun _ _ e => e)
  have k14 : Kept (fun k => k = d ∨ k = s.db) w1 w4 := (hk2.setCell (p := ⟨d, 1, none⟩) (fun _ => Or.inl rfl) _).below hbel
  have hown : ∀ i, (⟨s.cap, 0, s.ops, s.stop, s.nb, s.db, s.fb, .slice none 0 0, s.n + c0, s.N, D1, s.F, []⟩ : St).own d i → s.own d i := fun i hi => by
    rcases hi with h | h | h | h | h
    · exact Or.inl h
    · exact Or.inr (Or.inl h)
    · exact Or.inr (Or.inr (Or.inl h))
    · exact Or.inr (Or.inr (Or.inr (Or.inl h)))
    · cases h
  have hdb : ∀ i, (i = d ∨ i = s.db) → s.own d i := fun i e => e.elim Or.inl (fun e => Or.inr (Or.inr (Or.inl e)))
  have hLd : ∀ f ∈ L, f ≠ d := fun f hf => (hF.at_ f hf).ne_disk h.at_
  have hF4 : Files w4 d ⟨s.cap, 0, s.ops, s.stop, s.nb, s.db, s.fb, .slice none 0 0, s.n + c0, s.N, D1, s.F, []⟩ L fs := hF.kept k14 (fun f hf e => e.elim (hLd f hf) ((hF.at_ f hf).ne_map h.mD)) (fun f hf i hi e => hF.own f hf i hi (hdb i e)) (fun i hi => Or.inl (hown i hi))
  have hC4 : CutsAt w4 cv cs := HC.out.kept k14 (fun b o l c e hne e' => hcb b o l c e hne (Or.inl (hdb b e')))
  have htn : ts.length ≤ s.n + c0 := HDM.out w4 _ hI4.mD
  have hrow0 := ownsRow_zero hrow
  have hrows : Hid (∀ f ∈ L, ∀ g ∈ L, (fs g).v.ownBlock ≠ some f) := fun f hf g hg => (hF.at_ f hf).ne_row (hF.at_ g hg).row (by decide)
  have hrowd : Hid (∀ g ∈ L, (fs g).v.ownBlock ≠ some d) := fun g hg => h.at_.ne_row (hF.at_ g hg).row (by decide)
  have HI4 : Hid (IsDisk w4 d ⟨s.cap, 0, s.ops, s.stop, s.nb, s.db, s.fb, .slice none 0 0, s.n + c0, s.N, D1, s.F, []⟩) := hI4
  clear hcut hset d0 d1 d2 d3 d4 d5 d6 d7 df c5 hI2 hI3 kb hbel hrow
  go_loopw [25] (fun i wr => ∃ k : Nat, k ≤ ts.length ∧ i = .int .i64 k ∧ IsDisk wr d ⟨s.cap, usedTo D1 cs ts fs k, s.ops, s.stop, s.nb, s.db, s.fb, .slice none 0 0, s.n + c0, s.N, D1, s.F, []⟩ ∧ Files wr d ⟨s.cap, 0, s.ops, s.stop, s.nb, s.db, s.fb, .slice none 0 0, s.n + c0, s.N, D1, s.F, []⟩ L (crashTo D1 cs ts fs k) ∧ Kept (fun i => i = d ∨ i ∈ L) w4 wr ∧ 0 ≤ usedTo D1 cs ts fs k ∧ usedTo D1 cs ts fs k ≤ k * 1000000000) (fun i _ => ts.length - (intOf i).toNat)
  case atStart => exact ⟨0, Nat.zero_le _, rfl, hI4, hF4, Kept.refl _ _, by simp [usedTo], by simp [usedTo]⟩
  case round =>
    obtain ⟨k, hk, rfl, hIr, hFr, hKr, hu0, hu1⟩ := hrel
    by_cases hlt : k < ts.length
    · obtain ⟨f, hfL, hat⟩ := HTS.out ts[k] (List.getElem_mem _)
      have hgd : ts.getD k [] = ts[k] := by simp [List.getD, hlt]
      have hfo : fileOf D1 (ts.getD k []) = f := by rw [hgd]; exact fileOf_eq hat
      have hfr := hFr.at_ f hfL
      have hle := hFr.le f hfL
      have hlen' : (crashTo D1 cs ts fs k f).bs.length ≤ 1000000000 := Nat.le_trans (crashTo_len D1 cs ts fs f k) (hlen f hfL)
      have hstep : Hid (crashTo D1 cs ts fs (k + 1) = fun g => if g = f then (crashTo D1 cs ts fs k g).cut ((crashTo D1 cs ts fs k f).dur + cutN cs (k + 1) ((crashTo D1 cs ts fs k f).bs.length - (crashTo D1 cs ts fs k f).dur)) else crashTo D1 cs ts fs k g) := by
        show _ = _
        funext g
        simp only [crashTo, hfo]
        by_cases e : g = f
        · subst e; simp only [if_pos, FileV.crash]
        · simp only [if_neg e]
      have hustep : Hid (usedTo D1 cs ts fs (k + 1) = usedTo D1 cs ts fs k + ((crashTo D1 cs ts fs k f).dur + cutN cs (k + 1) ((crashTo D1 cs ts fs k f).bs.length - (crashTo D1 cs ts fs k f).dur) : Nat)) := by
        show _ = _
        simp only [usedTo, crashTo, hfo, if_pos, FileV.crash, FileV.cut]
      have hcr := hC4.kept hKr (fun b o l c e hne e' => hcb b o l c e hne (e'.elim (fun e => Or.inl (Or.inl e)) Or.inr))
      have hnr := hKr.ownsRow hrow0 (fun i hi e' => e'.elim (fun e => hI4.at_.ne_row hrow0 (by decide) (e ▸ hi)) (fun e => (hF4.at_ i e).ne_row hrow0 (by decide) hi))
      have HNr : Hid (∀ g, na = some ⟨g, 0, none⟩ → wr.cell? ⟨g, k, none⟩ = some (.string ⟨ts[k].toArray⟩)) := fun g hg => by
        subst hg
        have := hnr.cells (g := g) rfl k (encStr ts[k]) (by simp [hlt])
        rw [Addr.add_lit, Nat.zero_add] at this
        exact this
      obtain ⟨g, hna⟩ : ∃ g, na = some ⟨g, 0, none⟩ := by
        rcases hnr.2 with ⟨e, e0⟩ | ⟨g, cap, cur, e, _⟩
        · omega
        · cases e; exact ⟨g, rfl⟩
      have hkl : ts[k].length ≤ maxLen := strKeys_le hI4.mD Try.underlying9 _ (mem_risen (p := []) (by have hm : ts[k] ∈ ts := List.getElem_mem _; have e : ts = risen D1 [] := HR.out.symm; exact e ▸ hm))
      obtain ⟨lv, lps, hlook, hlv⟩ := dirLook hIr.mD (s := ⟨ts[k].toArray⟩) (by simpa [ByteArray.size] using hkl)
      have hlv2 : fileElem lv = some (.lit (.int .i64 f), lps) := by rw [hlv]; simp [hat]
      obtain rfl := fileElem_inv_ptr hlv2
      have hcut := fun W (hW : CutsAt W cv cs) => cut_any W cv cs hW (k + 1) ((crashTo D1 cs ts fs k f).bs.length - (crashTo D1 cs ts fs k f).dur) (IntKind.i64.wrap ((k : Int) + 1)) (IntKind.i64.wrap (((crashTo D1 cs ts fs k f).bs.length : Int) - ((crashTo D1 cs ts fs k f).dur : Int))) (by rw [wrap_in (by omega) (by omega)]; omega) (by rw [wrap_in (by omega) (by omega)]; omega) (by omega)
      have hcN := cutN_le cs (k + 1) ((crashTo D1 cs ts fs k f).bs.length - (crashTo D1 cs ts fs k f).dur)
      obtain ⟨f0, f1, ff0, ff1⟩ := hfr.cells
      obtain ⟨va, vc, hva⟩ := slice_of_row hfr.row
      rw [hva] at f0
      have hcap := ownsRow_cap (hva ▸ hfr.row)
      have hfd := hLd f hfL
      have hfd' := hfd.symm
      obtain ⟨d0, d1, d2, d3, d4, d5, d6, d7, df⟩ := hIr.at_.cells
      have HVA : Hid ((crashTo D1 cs ts fs k f).v = .slice va (crashTo D1 cs ts fs k f).bs.length vc) := hva
      have HCR : Hid (CutsAt wr.drew cv cs) := ⟨hcr.shape, hcr.cells⟩
      have HCUT : Hid (∀ W, CutsAt W cv cs → Calls Try.prog 38 #[cv, .int .i64 (IntKind.i64.wrap ((k : Int) + 1)), .int .i64 (IntKind.i64.wrap (((crashTo D1 cs ts fs k f).bs.length : Int) - ((crashTo D1 cs ts fs k f).dur : Int)))] W fun e w' => e = .returned (.int .i64 (cutN cs (k + 1) ((crashTo D1 cs ts fs k f).bs.length - (crashTo D1 cs ts fs k f).dur))) ∧ w' = W) := hcut
      clear hcut hcr hva hlv hlv2 hgd hfo
      generalize cutN cs (k + 1) ((crashTo D1 cs ts fs k f).bs.length - (crashTo D1 cs ts fs k f).dur) = q at *
      have hcell := HNr.out g hna
      subst hna
      clear hat hnr HNr hkl
      generalize ts[k] = x at *
      go_wp2_with fail
      refine wp_region_still_tail 19 (by kernel_rfl) (by kernel_rfl) ?_
      simp only [List.take_succ_cons, List.take_zero, List.drop_succ_cons, List.drop_zero]
      iterate 17 still_step
      refine wpStill_step (fun K hK => ?_)
      go_simp
      refine ⟨_, HCUT.out wr.drew HCR.out, hK _ ?_⟩
      clear hK K HCUT HCR
      still_step
      refine wpStill_nil ?_
      obtain ⟨nN, hnN⟩ : ∃ nN : Nat, nN = (crashTo D1 cs ts fs k f).dur + q := ⟨_, rfl⟩
      have hwr : IntKind.i64.wrap (((crashTo D1 cs ts fs k f).dur : Int) + (q : Int)) = (nN : Int) := by rw [wrap_in (by omega) (by omega)]; omega
      rw [hwr]
      clear hwr
      have HQ : Hid (nN = (crashTo D1 cs ts fs k f).dur + q) := hnN
      have hn1 : (nN : Int) ≤ (vc : Int) := by omega
      have hn2 : nN ≤ 1000000000 := by omega
      have hn3 : nN ≤ vc := by omega
      clear hnN
      have hf8 : wr.heap[f]? = some (.cells #[.slice va (crashTo D1 cs ts fs k f).bs.length vc, .int .i64 (crashTo D1 cs ts fs k f).dur] 72) := HVA.out ▸ hfr.at_
      have HN : Hid (∀ i, (⟨s.cap, usedTo D1 cs ts fs k, s.ops, s.stop, s.nb, s.db, s.fb, .slice none 0 0, s.n + c0, s.N, D1, s.F, []⟩ : St).own d i → ¬ i = f) := fun i hi e => by
        subst e
        rcases hi with e | e | e | e | e
        · exact hfr.ne_disk hIr.at_ e
        · exact hfr.ne_map hIr.mN e
        · exact hfr.ne_map hIr.mD e
        · exact hfr.ne_map hIr.mF e
        · cases e
      have HF8 : Hid (wr.heap[f]? = some (.cells #[.slice va (crashTo D1 cs ts fs k f).bs.length vc, .int .i64 (crashTo D1 cs ts fs k f).dur] 72)) := hf8
      clear hf8 hlook hcell
      go_wp2_with fail
      refine goOn (S := fun W => W.heap[f]? = some (.cells #[.slice va (crashTo D1 cs ts fs k f).bs.length vc, .int .i64 nN] 72) ∧ Kept (fun i => i = f) wr W) ⟨heap_setCell_same HF8.out _, ((Kept.refl (fun i => i = f) wr).setCell (p := ⟨f, 1, none⟩) (fun _ => rfl) _).drew⟩ ?_
      clear f0 f1 ff0 ff1
      rintro WA ⟨hA, kA⟩
      have f0 : WA.cell? ⟨f, 0, none⟩ = some (.slice va (crashTo D1 cs ts fs k f).bs.length vc) := by rw [cell_of_heap hA]; rfl
      have f1 : WA.cell? ⟨f, 1, none⟩ = some (.int .i64 nN) := by rw [cell_of_heap hA]; rfl
      have ff : ∀ i, WA.frozen? ⟨f, i, none⟩ = false := fun i => frozen_of_heap hA
      clear d0 d1 d2 d3 d4 d5 d6 d7 df
      refine wp_region_still_tail 10 (by kernel_rfl) (by kernel_rfl) ?_
      simp only [List.take_succ_cons, List.take_zero, List.drop_succ_cons, List.drop_zero]
      iterate 10 still_step
      refine wpStill_nil ?_
      go_wp2_with fail
      refine goOn (S := fun W => W.heap[f]? = some (.cells #[.slice va nN vc, .int .i64 nN] 72) ∧ Kept (fun i => i = f) wr W) ⟨heap_setCell_same hA _, (kA.setCell (p := ⟨f, 0, none⟩) (fun _ => rfl) _).drew⟩ ?_
      clear hA kA f0 f1 ff
      rintro WB ⟨hB, kB⟩
      have hIB := hIr.kept kB HN.out
      obtain ⟨d0, d1, d2, d3, d4, d5, d6, d7, df⟩ := hIB.at_.cells
      have f1 : WB.cell? ⟨f, 1, none⟩ = some (.int .i64 nN) := by rw [cell_of_heap hB]; rfl
      refine wp_region_still_tail 9 (by kernel_rfl) (by kernel_rfl) ?_
      simp only [List.take_succ_cons, List.take_zero, List.drop_succ_cons, List.drop_zero]
      iterate 9 still_step
      refine wpStill_nil ?_
      have hku : (k : Int) < 1000000000 := by omega
      have hwr : IntKind.i64.wrap (usedTo D1 cs ts fs k + (nN : Int)) = usedTo D1 cs ts fs k + (nN : Int) := wrap_in (by omega) (by omega)
      rw [hwr]
      clear hwr
      go_wp2_with fail
      have hQ := HQ.out
      have hu2 : usedTo D1 cs ts fs (k + 1) = usedTo D1 cs ts fs k + (nN : Int) := by rw [hustep.out, hQ]
      have hs2 : crashTo D1 cs ts fs (k + 1) = fun g => if g = f then (crashTo D1 cs ts fs k g).cut nN else crashTo D1 cs ts fs k g := by rw [hstep.out, hQ]
      have kF : Kept (fun i => i = d ∨ i = f) wr (WB.setCell ⟨d, 1, none⟩ (.int .i64 (usedTo D1 cs ts fs k + (nN : Int)))).drew := ((Kept.mono (O' := fun i => i = d ∨ i = f) kB (fun _ _ e => Or.inr e)).setCell (p := ⟨d, 1, none⟩) (fun _ => Or.inl rfl) _).drew
      have hBf : (WB.setCell ⟨d, 1, none⟩ (.int .i64 (usedTo D1 cs ts fs k + (nN : Int)))).drew.heap[f]? = some (.cells #[.slice va nN vc, .int .i64 nN] 72) := (Below.heap_setCell WB ⟨d, 1, none⟩ _ f hfd).trans hB
      have hown2 : ∀ g, g ∈ L → (crashTo D1 cs ts fs k g).v.ownBlock ≠ some d := fun g hg => hIr.at_.ne_row (hFr.at_ g hg).row (by decide)
      have hown3 : ∀ g, g ∈ L → (crashTo D1 cs ts fs k g).v.ownBlock ≠ some f := fun g hg => hfr.ne_row (hFr.at_ g hg).row (by decide)
      refine ⟨⟨k + 1, by omega, by go_num, ?_, ?_, ?_, ?_, ?_⟩, by simp [intOf]; omega⟩
      · rw [hu2]
        exact (hIB.set1 _).kept ((Kept.refl (fun _ => False) _).drew) (fun _ _ e => e)
      · rw [hs2]
        exact hFr.cut (s' := ⟨s.cap, 0, s.ops, s.stop, s.nb, s.db, s.fb, .slice none 0 0, s.n + c0, s.N, D1, s.F, []⟩) hfL (by omega) hLd (fun _ e => e) kF (by rw [HVA.out]; exact hBf) hown2 hown3
      · exact hKr.trans kF (fun i _ e => e.elim Or.inl (fun e => Or.inr (e ▸ hfL)))
      · rw [hu2]; omega
      · rw [hu2]; omega
    · have hkn : k = ts.length := by omega
      subst hkn
      obtain ⟨d0, d1, d2, d3, d4, d5, d6, d7, df⟩ := hIr.at_.cells
      have hfl := hIr.mF.lt
      have hdl := hIr.at_.lt
      have hdf := hIr.at_.ne_map hIr.mF
      have HI : Hid (∀ w5, Below wr.heap.size wr w5 → IsDisk w5 d ⟨s.cap, usedTo D1 cs ts fs ts.length, s.ops, s.stop, s.nb, s.db, s.fb, .slice none 0 0, s.n + c0, s.N, D1, s.F, []⟩) := fun w5 hb5 => hIr.kept ((Kept.refl (fun _ => False) wr).below hb5) (fun _ _ e => e)
      have hclone := Try.maps_Clone_owns 9 fileElem s.db (s.n + c0) D1 wr hIr.mD
      go_wp2_with (first | (go_at_call 40; refine hclone.mono ?_; rintro e w5 ⟨rfl, hn5, hdm5, hb5⟩; have hI5 := HI.out w5 hb5; obtain ⟨e0, e1, e2, e3, e4, e5, e6, e7, ef⟩ := hI5.at_.cells) | (refine wpList_clear_own _ rfl _ 56 rfl 3 3 Try.underlying56 _ s.fb (s.n + c0) s.F rfl (hI5.mF.setCell (a := ⟨d, 3, none⟩) hdf.symm _) ?_; intro w6 hF6 hturn; have hd6 := (hI5.at_.set3 wr.heap.size).turned hturn hdf; obtain ⟨g0, g1, g2, g3, g4, g5, g6, g7, gf⟩ := hd6.cells))
      go_end0
      have hsz := hb5.size
      have kd : Kept (fun i => i = d ∨ i = s.fb) w5 (w6.setCell ⟨d, 7, none⟩ (.int .i64 (-1))) := (((Kept.refl (fun i => i = d ∨ i = s.fb) w5).setCell (p := ⟨d, 3, none⟩) (fun _ => Or.inl rfl) _).turned hturn (fun _ => Or.inr rfl)).setCell (p := ⟨d, 7, none⟩) (fun _ => Or.inl rfl) _
      have kr : Kept (fun i => i = d ∨ i ∈ L) w4 w5 := hKr.below hb5
      have hFn : Files (w6.setCell ⟨d, 7, none⟩ (.int .i64 (-1))) d ⟨s.cap, usedTo D1 cs ts fs ts.length, s.ops, -1, wr.heap.size, s.db, s.fb, .slice none 0 0, s.n + c0, D1, D1, .map [], []⟩ L (crashTo D1 cs ts fs ts.length) := by
        refine hFr.kept (O := fun i => i = d ∨ i = s.fb) ((((Kept.refl (fun i => i = d ∨ i = s.fb) wr).below hb5)).trans kd (fun _ _ e => e)) (fun f hf e => e.elim (hLd f hf) ((hFr.at_ f hf).ne_map hIr.mF)) (fun f hf i hi e => hFr.own f hf i hi (e.elim Or.inl (fun e => Or.inr (Or.inr (Or.inr (Or.inl e)))))) (fun i hi => ?_)
        rcases hi with h | h | h | h | h
        · exact Or.inl (Or.inl h)
        · exact Or.inr (Nat.le_of_eq h.symm)
        · exact Or.inl (Or.inr (Or.inr (Or.inl h)))
        · exact Or.inl (Or.inr (Or.inr (Or.inr (Or.inl h))))
        · cases h
      refine ⟨rfl, wr.heap.size, Nat.le_trans k14.size hKr.size, ⟨hd6.set7 _, ?_, ?_, ?_, World.ownsRow_nil _ _ _ _, ?_, ?_, h.df, h.o0, by show (-1 : Int) ≤ -1; omega, by show (-1 : Int) ≤ 9223372036854775807; omega⟩, hFn, ?_⟩
      · have e1 : wr.heap.size ≠ d := by omega
        have e2 : wr.heap.size ≠ s.fb := by omega
        exact kd.ownsMap hn5 (fun e => e.elim e1 e2)
      · exact kd.ownsMap hdm5 (fun e => e.elim (fun e => hIr.at_.ne_map hIr.mD e.symm) h.df)
      · exact hF6.setCell (a := ⟨d, 7, none⟩) hdf.symm _
      · show wr.heap.size ≠ s.db
        have hh : s.db < wr.heap.size := hIr.mD.lt
        exact fun e => by omega
      · show wr.heap.size ≠ s.fb
        exact fun e => by omega
      · refine ((Kept.mono (O' := fun i => s.own d i ∨ i ∈ L) k14 (fun i _ e => Or.inl (hdb i e))).trans kr (fun i _ e => e.elim (fun e => Or.inl (Or.inl e)) Or.inr)).trans kd (fun i _ e => Or.inl ?_)
        exact e.elim Or.inl (fun e => Or.inr (Or.inr (Or.inr (Or.inl e))))

end Go.Proofs.Ytipakfdebccchaa
