/- Texts that belong together. -/
import Derived.Test.YtipakfdebccchaaMWo
import Derived.Test.YtipakfdebccchaaMWd
import Derived.Test.YtipakfdebccchaaME2
import Derived.Test.YtipakfdebccchaaMWc
/- Append: bytes put, all or, where it is torn, their first half. -/
namespace Go.Proofs.Ytipakfdebccchaa
open Go.RowKit Go.Maps
open Go.WideMaps Go.WideElems

/-- What put leaves is a disk. -/
theorem put_is {w w1 w3 : World} {d f k q : Nat} {s : St} {v v' : Value} {bs : List UInt8} {dur : Int} (h : IsDisk w d s) (hI : IsDisk w1 d s.begun) (hk : Kept (fun k => k = d ∨ k = s.fb) w w1) (hf1 : FileAt w1 f v bs dur) (hrow : ∀ k, v.ownBlock = some k → ¬ s.own d k)
    (hd3 : DiskAt w3 d s.cap (s.used + q) s.begun.ops s.nb s.db s.pv s.fb s.begun.stop) (hv3 : v'.ownBlock = v.ownBlock ∨ v'.ownBlock = some (w1.drewN k).heap.size) (hk3 : Kept (fun k => k = d ∨ k = f ∨ v.ownBlock = some k) (w1.drewN k) w3) :
    IsDisk w3 d { s.begun with used := s.used + q } ∧ (v'.ownBlock = v.ownBlock ∨ ∃ g, v'.ownBlock = some g ∧ w.heap.size ≤ g) ∧ Kept (fun k => s.own d k ∨ k = f ∨ v.ownBlock = some k) w w3 := by
  refine ⟨⟨hd3, ?_, ?_, ?_, ?_, h.nd, h.nf, h.df, hI.o0, hI.s0, hI.s1⟩, ?_, ?_⟩
  · exact hk3.ownsMap (b := s.nb) hI.mN (fun e => by
      rcases e with e | e | e
      · exact hI.at_.ne_map hI.mN e.symm
      · exact hf1.ne_map hI.mN e.symm
      · exact map_ne_row hI.mN hf1.row e)
  · exact hk3.ownsMap (b := s.db) hI.mD (fun e => by
      rcases e with e | e | e
      · exact hI.at_.ne_map hI.mD e.symm
      · exact hf1.ne_map hI.mD e.symm
      · exact map_ne_row hI.mD hf1.row e)
  · exact hk3.ownsMap (b := s.fb) hI.mF (fun e => by
      rcases e with e | e | e
      · exact hI.at_.ne_map hI.mF e.symm
      · exact hf1.ne_map hI.mF e.symm
      · exact map_ne_row hI.mF hf1.row e)
  · exact hk3.ownsRow (v := s.pv) hI.row (fun i hi e => by
      rcases e with e | e | e
      · exact hI.at_.ne_row hI.row (by decide) (e ▸ hi)
      · exact hf1.ne_row hI.row (by decide) (e ▸ hi)
      · exact hrow i e (Or.inr (Or.inr (Or.inr (Or.inr hi)))))
  · rcases hv3 with e | e
    · exact Or.inl e
    · exact Or.inr ⟨_, e, hk.size⟩
  · exact ((hk.mono (fun _ _ e => Or.inl (begun_own e))).drewN k).trans hk3 (fun i _ e => by
      rcases e with e | e
      · exact Or.inl (Or.inl e)
      · exact Or.inr e)

section
variable {w : World} {d : Nat} {s : St} (h : IsDisk w d s) (ho : s.ops < 1000000000) (name : ByteArray) (f : Nat) (v : Value) (bs : List UInt8) (dur : Int) (hf : FileAt w f v bs dur) (hrow : ∀ k, v.ownBlock = some k → ¬ s.own d k) (ad : Addr) (m c : Nat) (hmc : m ≤ c) (hcm : c ≤ maxLen) (nw : List UInt8)
  (hnews : ∀ j u, (byteVals nw)[j]? = some u → w.cell? (ad.add j) = some u) (hadr : 0 < nw.length → ¬ s.own d ad.block) (hl : bs.length + nw.length ≤ 1000000000000) (hu0 : 0 ≤ s.used) (hu1 : s.used ≤ 1000000000000)
  (HFR : Hid (∀ W, IsDisk W d s.begun → Calls Try.prog 61 #[.pointer (some ⟨d, 0, none⟩), .string name, .int .i64 m] W fun e w' => e = .returned (.tuple #[.pointer (some ⟨f, 0, none⟩), .int .i64 0]) ∧ ∃ k, w' = W.drewN k))
include h ho hf hrow hmc hcm hnews hadr hl hu0 hu1 HFR

omit ho hmc hcm hl hu0 hu1 HFR in
theorem append_ready : Hid (∀ w1, Kept (fun k => k = d ∨ k = s.fb) w w1 → FileAt w1 f v bs dur ∧ (∀ j u, (byteVals nw)[j]? = some u → w1.cell? (ad.add j) = some u)) := fun w1 k => by
  refine ⟨hf.kept k (fun e => e.elim (hf.ne_disk h.at_) (hf.ne_map h.mF)) (fun i hi e => hrow i hi (begun_own e)), fun j u hj => ?_⟩
  have hj' := (List.getElem?_eq_some_iff.1 hj).1
  rw [byteVals_length] at hj'
  have hb : (ad.add j).block = ad.block := by unfold Addr.add; split <;> rfl
  have hc := hnews j u hj
  have hlt := World.block_lt_of_cell? w _ hc
  rw [World.cell?_of_block (w := w) (w' := w1) (a := ad.add j) (k.block _ hlt (fun e => hadr (by omega) (begun_own (by rw [hb] at e; exact e))))]
  exact hc
omit hmc hcm in
set_option maxRecDepth 100000 in
set_option maxHeartbeats 1000000 in
theorem append_puts (hE : s.err = 0) (hm : nw.length = m) :
    Calls Try.prog 34 #[.pointer (some ⟨d, 0, none⟩), .string name, .slice (some ad) m c] w fun e w' => e = .returned (.int .i64 0) ∧
      ∃ v', FileAt w' f v' (bs ++ nw) dur ∧ IsDisk w' d { s.begun with used := s.used + m } ∧ (v'.ownBlock = v.ownBlock ∨ ∃ g, v'.ownBlock = some g ∧ w.heap.size ≤ g) ∧ Kept (fun k => s.own d k ∨ k = f ∨ v.ownBlock = some k) w w' := by
  have hbeg := begin_torn h ho
  have HB := append_ready h f v bs dur hf hrow ad nw hnews hadr
  have hT : s.torn = false := by
    cases e : s.torn
    · rfl
    · have := torn_err e; omega
  rw [hE, hT] at hbeg
  have HR : Hid (∀ k, v.ownBlock = some k → ¬ s.own d k) := hrow
  clear hf hnews hrow hadr
  go_enter Try.func34, Try.ntmps34
  go_wp2_with (first | (go_at_call 59; refine hbeg.mono ?_; rintro e w1 ⟨rfl, hI, hk⟩; obtain ⟨hf1, hn1⟩ := HB.out _ hk; replace hn1 : Hid (∀ j u, (byteVals nw)[j]? = some u → w1.cell? (ad.add j) = some u) := hn1) | (go_at_call 61; refine (HFR.out _ hI).mono ?_; rintro e w2 ⟨rfl, k, rfl⟩) | (go_at_call 62; refine (put_any d f _ _ _ _ _ _ _ _ v bs dur ad m c nw (w1.drewN k) hI.at_ ⟨hf1.at_, hf1.row⟩ hm hn1.out (by omega) hu0 hu1).mono ?_; rintro e w3 ⟨rfl, v', hf3, hd3, hv3, hk3⟩))
  go_ret
  exact ⟨rfl, v', hf3, put_is h hI hk hf1 HR.out hd3 hv3 hk3⟩
set_option maxRecDepth 100000 in
set_option maxHeartbeats 1000000 in
theorem append_tears (hT : s.torn = true) (hm : nw.length = m / 2) :
    Calls Try.prog 34 #[.pointer (some ⟨d, 0, none⟩), .string name, .slice (some ad) m c] w fun e w' => e = .returned (.int .i64 6) ∧
      ∃ v', FileAt w' f v' (bs ++ nw) dur ∧ IsDisk w' d { s.begun with used := s.used + (m / 2 : Nat) } ∧ (v'.ownBlock = v.ownBlock ∨ ∃ g, v'.ownBlock = some g ∧ w.heap.size ≤ g) ∧ Kept (fun k => s.own d k ∨ k = f ∨ v.ownBlock = some k) w w' := by
  have hbeg := begin_torn h ho
  have HB := append_ready h f v bs dur hf hrow ad nw hnews hadr
  rw [torn_err hT, hT] at hbeg
  have HR : Hid (∀ k, v.ownBlock = some k → ¬ s.own d k) := hrow
  obtain ⟨q, hq⟩ : ∃ q, q = m / 2 := ⟨_, rfl⟩
  rw [← hq] at hm ⊢
  have hqm : q ≤ m := by omega
  have hqi : (m : Int).tdiv 2 = (q : Int) := by rw [Int.tdiv_eq_ediv_of_nonneg (by omega)]; omega
  have hqi2 : (m : Int) / 2 = (q : Int) := by omega
  have hqc : (q : Int) ≤ (c : Int) := by omega
  have hmx : (c : Int) ≤ 9223372036854775807 := by unfold maxLen at hcm; omega
  clear hf hnews hrow hadr hq
  go_enter Try.func34, Try.ntmps34
  go_wp2_with (first | (go_at_call 59; refine hbeg.mono ?_; rintro e w1 ⟨rfl, hI, hk⟩; obtain ⟨hf1, hn1⟩ := HB.out _ hk; replace hn1 : Hid (∀ j u, (byteVals nw)[j]? = some u → w1.cell? (ad.add j) = some u) := hn1) | (go_at_call 61; refine (HFR.out _ hI).mono ?_; rintro e w2 ⟨rfl, k, rfl⟩) | (go_at_call 62; refine (put_any d f _ _ _ _ _ _ _ _ v bs dur ad q c nw (w1.drewN k) hI.at_ ⟨hf1.at_, hf1.row⟩ hm hn1.out (by omega) hu0 hu1).mono ?_; rintro e w3 ⟨rfl, v', hf3, hd3, hv3, hk3⟩))
  go_ret
  exact ⟨rfl, v', hf3, put_is h hI hk hf1 HR.out hd3 hv3 hk3⟩
end

end Go.Proofs.Ytipakfdebccchaa

/- What List and Durable tell. -/
namespace Go.Proofs.Ytipakfdebccchaa
open Go.RowKit Go.Maps Go.Sort

section
variable {w : World} {d : Nat} {s : St} (h : IsDisk w d s) (hn : s.n < 1000000000)
include h hn
set_option maxHeartbeats 1000000 in
theorem list_any (p : ByteArray) : Calls Try.prog 12 #[.pointer (some ⟨d, 0, none⟩), .string p] w fun e w' => ∃ v, e = .returned v ∧
      w'.ownsRow w.heap.size 9 1 v (risen s.N p.data.toList).length ((risen s.N p.data.toList).map encStr) ∧ Below w.heap.size w w' := by
  obtain ⟨c0, c1, c2, c3, c4, c5, c6, c7, cf⟩ := h.at_.cells
  have HR : Hid (Calls Try.prog 39 #[.map (some s.nb), .string p] w fun e w' => ∃ v, e = .returned v ∧ w'.ownsRow w.heap.size 9 1 v (risen s.N p.data.toList).length ((risen s.N p.data.toList).map encStr) ∧ Below w.heap.size w w') := rising_any s.nb s.n p s.N w h.mN hn
  clear cf
  go_enter Try.func12, Try.ntmps12
  go_wp2_with (go_at_call 39; refine HR.out.mono ?_; clear HR; rintro e w1 ⟨v, rfl, hr, hb⟩)
  go_ret
  exact ⟨v, rfl, hr, hb⟩
set_option maxHeartbeats 1000000 in
theorem durable_any : Calls Try.prog 15 #[.pointer (some ⟨d, 0, none⟩)] w fun e w' => ∃ v, e = .returned v ∧
      w'.ownsRow w.heap.size 9 1 v (risen s.D []).length ((risen s.D []).map encStr) ∧ Below w.heap.size w w' := by
  obtain ⟨c0, c1, c2, c3, c4, c5, c6, c7, cf⟩ := h.at_.cells
  have HR : Hid (Calls Try.prog 39 #[.map (some s.db), .string ⟨#[]⟩] w fun e w' => ∃ v, e = .returned v ∧ w'.ownsRow w.heap.size 9 1 v (risen s.D []).length ((risen s.D []).map encStr) ∧ Below w.heap.size w w') := rising_any s.db s.n ⟨#[]⟩ s.D w h.mD hn
  clear cf
  go_enter Try.func15, Try.ntmps15
  go_wp2_with (go_at_call 39; refine HR.out.mono ?_; clear HR; rintro e w1 ⟨v, rfl, hr, hb⟩)
  go_ret
  exact ⟨v, rfl, hr, hb⟩
end

end Go.Proofs.Ytipakfdebccchaa

/- How much is used. -/
namespace Go.Proofs.Ytipakfdebccchaa
open Go.RowKit Go.Maps Go.Sort
open Go.WideMaps Go.WideElems

section
variable {w : World} {d : Nat} {s : St} (h : IsDisk w d s) (name : ByteArray)
include h
set_option maxHeartbeats 1000000 in
theorem used_any : Calls Try.prog 29 #[.pointer (some ⟨d, 0, none⟩)] w fun e w' => e = .returned (.int .i64 s.used) ∧ w' = w := by
  obtain ⟨c0, c1, c2, c3, c4, c5, c6, c7, cf⟩ := h.at_.cells
  go_enter Try.func29, Try.ntmps29
  go_wp2
  go_ret
  exact ⟨rfl, rfl⟩
end

end Go.Proofs.Ytipakfdebccchaa

/- The program's disk says what the document's disk says: the relation, and what keeps it. -/
namespace Go.Proofs.Ytipakfdebccchaa
open Go.RowKit Go.Maps Go.Sort

/-- A block that the program's disk may write. -/
def PO (Z : Nat → Prop) (base : Nat) (w : World) (k : Nat) : Prop := base ≤ k ∧ ((∃ es c, w.heap[k]? = some (.map es c)) ∨ ∃ cs t fr, w.heap[k]? = some (.cells cs t fr) ∧ (t = 59 ∨ t = 101 ∨ t = 72 ∨ (t = 5 ∧ Z k)))
/-- Only such blocks have turned. -/
def KP (Z : Nat → Prop) (base : Nat) (w w' : World) : Prop := Kept (PO Z base w) w w'
theorem KP.refl (Z : Nat → Prop) (base : Nat) (w : World) : KP Z base w w := Kept.refl _ w
theorem KP.size {Z : Nat → Prop} {base : Nat} {a b : World} (h : KP Z base a b) : a.heap.size ≤ b.heap.size := Kept.size h
theorem KP.trans {Z Z' : Nat → Prop} {base : Nat} {a b c : World} (h : KP Z base a b) (k : KP Z' base b c) (hZ : ∀ i, i < a.heap.size → Z' i → Z i) : KP Z base a c := by
  refine Kept.trans h k (fun i hi ht => ?_)
  by_cases hn : PO Z base a i
  · exact hn
  · have e := h.block i hi hn
    obtain ⟨h1, h2⟩ := ht
    refine ⟨h1, ?_⟩
    rw [e] at h2
    rcases h2 with h2 | ⟨cs, t, fr, h3, h4⟩
    · exact Or.inl h2
    · refine Or.inr ⟨cs, t, fr, h3, ?_⟩
      rcases h4 with h4 | h4 | h4 | ⟨h4, h5⟩
      · exact Or.inl h4
      · exact Or.inr (Or.inl h4)
      · exact Or.inr (Or.inr (Or.inl h4))
      · exact Or.inr (Or.inr (Or.inr ⟨h4, hZ i hi h5⟩))
theorem KP.below {Z : Nat → Prop} {base : Nat} {a b : World} (h : Below a.heap.size a b) : KP Z base a b := (Kept.refl _ a).below h
theorem KP.toBelow {Z : Nat → Prop} {base : Nat} {a b : World} (h : KP Z base a b) (hb : base ≤ a.heap.size) : Below base a b := Kept.toBelow h hb (fun _ hi => hi.1)
theorem KP.drewN {Z : Nat → Prop} {base : Nat} {a b : World} (h : KP Z base a b) (n : Nat) : KP Z base a (b.drewN n) := Kept.drewN h n

/-- The zone with what came since. -/
def newZ (Z : Nat → Prop) (w w' : World) (b : Nat) : Prop := Z b ∨ (w.heap.size ≤ b ∧ b < w'.heap.size)
def RA.rez (a : RA) (w w' : World) : RA := { a with zone := newZ a.zone w w' }

/-- What the program's disk writes leaves the document's. -/
theorem RefIs.prog {w w' : World} {r base base' : Nat} {a : RA} (h : RefIs w r base a) (k : KP a.zone base' w w') : RefIs w' r base (a.rez w w') := by
  obtain ⟨s, hI, h1, h2⟩ := h
  subst h2
  have no : ∀ {b : Nat} {cs : Array Value} {t : TypeId} {fr : Nat × Nat}, w.heap[b]? = some (.cells cs t fr) → t ≠ 59 → t ≠ 101 → t ≠ 72 → (t = 5 → ¬ s.zone b) → ¬ PO s.zone base' w b := fun {b cs t fr} e e1 e2 e3 e4 hp => by
    rcases hp.2 with ⟨es, c, h3⟩ | ⟨cs', t', fr', h3, h4⟩
    · rw [e] at h3; cases h3
    · rw [e] at h3
      simp at h3
      obtain ⟨_, rfl, _⟩ := h3
      rcases h4 with h4 | h4 | h4 | ⟨h4, h5⟩
      · exact e1 h4
      · exact e2 h4
      · exact e3 h4
      · exact e4 h4 h5
  have nor : ∀ {base n size : Nat} {e : TypeId} {v : Value} {xs : List Value}, w.ownsRow base e size v n xs → e ≠ 59 → e ≠ 101 → e ≠ 72 → e ≠ 5 → ∀ b, v.ownBlock = some b → ¬ PO s.zone base' w b := fun ho e1 e2 e3 e4 b hb => by
    obtain ⟨cs, fr, e⟩ := row_block ho hb
    exact no e e1 e2 e3 (fun e5 => absurd e5 e4)
  have hz : ∀ x, x ∈ s.files → ∀ b, x.1.ownBlock = some b → ¬ PO s.zone base' w b := fun x hx b hb => by
    obtain ⟨cs, fr, e⟩ := (hI.bytes x hx).blk b hb
    exact no e (by decide) (by decide) (by decide) (fun _ => hI.sep.2 x hx b hb)
  have k' : Kept (PO s.zone base' w) w w' := k
  have hat := hI.at_
  refine ⟨{ s with zone := newZ s.zone w w' }, ⟨hI.lo, k'.heap hat (no hat (by decide) (by decide) (by decide) (fun e => absurd e (by decide))), k'.ownsRow hI.rF (nor hI.rF (by decide) (by decide) (by decide) (by decide)), k'.ownsRow hI.rD (nor hI.rD (by decide) (by decide) (by decide) (by decide)), k'.ownsRow hI.rK (nor hI.rK (by decide) (by decide) (by decide) (by decide)), k'.ownsRow hI.rP (nor hI.rP (by decide) (by decide) (by decide) (by decide)), k'.ownsRow hI.rQ (nor hI.rQ (by decide) (by decide) (by decide) (by decide)), fun x hx => ?_, ?_⟩, h1, rfl⟩
  · refine ⟨(hI.bytes x hx).at_.kept k' (fun b hb _ => hz x hx b hb), fun b hb => ?_⟩
    obtain ⟨cs, fr, e⟩ := (hI.bytes x hx).blk b hb
    exact ⟨cs, fr, k'.heap e (hz x hx b hb)⟩
  · refine ⟨fun b hb => ?_, fun x hx b hb hzb => ?_⟩
    · rcases hb with hb | hb
      · exact Nat.lt_of_lt_of_le (hI.sep.1 b hb) k'.size
      · exact hb.2
    · obtain ⟨cs, fr, e⟩ := (hI.bytes x hx).blk b hb
      have := (Array.getElem?_eq_some_iff.1 e).1
      rcases hzb with hzb | hzb
      · exact hI.sep.2 x hx b hb hzb
      · omega

/-- The program's disk at d says a: its files lie in the blocks blk, in the document's order. -/
structure PS (w : World) (d base k : Nat) (Z : Nat → Prop) (a : RA) (s : St) (fs : Nat → FileV) (blk : List Nat) : Prop where
  disk : IsDisk w d s
  files : Files w d s blk fs
  nodup : blk.Nodup
  len : blk.length = a.files.length
  file : ∀ i (hi : i < blk.length), a.files[i]? = some ((fs blk[i]).bs, ((fs blk[i]).dur : Int))
  cap : s.cap = a.cap
  stop : s.stop = a.stop
  ops : s.ops = a.cnt
  mN : MapIs blk s.N a.dir
  mD : MapIs blk s.D a.kept
  pend : s.pend = a.pend.map (pe blk)
  used : s.used = a.used
  flt : FaultIs s.F a.cnt a.faults
  n : s.n ≤ k * 1000
  own : ∀ i, s.own d i → base ≤ i
  blo : ∀ f, f ∈ blk → base ≤ f
  zone : ∀ f, f ∈ blk → ∀ b, (fs f).v.ownBlock = some b → Z b
  zlo : ∀ b, Z b → base ≤ b ∧ b < w.heap.size
def PIs (w : World) (d base k : Nat) (Z : Nat → Prop) (a : RA) : Prop := ∃ s fs blk, PS w d base k Z a s fs blk

theorem PIs.rez {w : World} {d base k : Nat} {Z : Nat → Prop} {a : RA} (h : PIs w d base k Z a) (w1 w2 : World) : PIs w d base k Z (a.rez w1 w2) := by
  obtain ⟨s, fs, blk, h⟩ := h
  exact ⟨s, fs, blk, ⟨h.disk, h.files, h.nodup, h.len, h.file, h.cap, h.stop, h.ops, h.mN, h.mD, h.pend, h.used, h.flt, h.n, h.own, h.blo, h.zone, h.zlo⟩⟩

section
variable {w : World} {d base k : Nat} {Z : Nat → Prop} {a : RA} {s : St} {fs : Nat → FileV} {blk : List Nat} (h : PS w d base k Z a s fs blk)
include h

theorem PS.po_own (i : Nat) (hi : s.own d i) : PO Z base w i := by
  refine ⟨h.own i hi, ?_⟩
  rcases hi with rfl | rfl | rfl | rfl | hi
  · have := h.disk.at_
    exact Or.inr ⟨_, _, _, this, Or.inl rfl⟩
  · obtain ⟨es, c, e, _⟩ := h.disk.mN
    exact Or.inl ⟨es, c, e⟩
  · obtain ⟨es, c, e, _⟩ := h.disk.mD
    exact Or.inl ⟨es, c, e⟩
  · obtain ⟨es, c, e, _⟩ := h.disk.mF
    exact Or.inl ⟨es, c, e⟩
  · obtain ⟨cs, fr, e⟩ := row_block h.disk.row hi
    exact Or.inr ⟨_, _, _, e, Or.inr (Or.inl rfl)⟩
theorem PS.po_file (f : Nat) (hf : f ∈ blk) : PO Z base w f := ⟨h.blo f hf, Or.inr ⟨_, _, _, (h.files.at_ f hf).at_, Or.inr (Or.inr (Or.inl rfl))⟩⟩
theorem PS.po_row (f : Nat) (hf : f ∈ blk) (b : Nat) (hb : (fs f).v.ownBlock = some b) : PO Z base w b := by
  obtain ⟨cs, fr, e⟩ := row_block (h.files.at_ f hf).row hb
  exact ⟨(h.zlo b (h.zone f hf b hb)).1, Or.inr ⟨_, _, _, e, Or.inr (Or.inr (Or.inr ⟨rfl, h.zone f hf b hb⟩))⟩⟩
theorem PS.room : base ≤ w.heap.size := Nat.le_trans (h.own d (Or.inl rfl)) (Nat.le_of_lt h.disk.at_.lt)
theorem PS.kept {w' : World} {O : Nat → Prop} (kk : Kept O w w') (hO : ∀ i, PO Z base w i → ¬ O i) : PS w' d base k Z a s fs blk :=
  ⟨h.disk.kept kk (fun i hi => hO i (h.po_own i hi)), h.files.kept kk (fun f hf => hO f (h.po_file f hf)) (fun f hf i hi => hO i (h.po_row f hf i hi)) (fun _i hi => Or.inl hi), h.nodup, h.len, h.file, h.cap, h.stop, h.ops, h.mN, h.mD, h.pend, h.used, h.flt, h.n, h.own, h.blo, h.zone, fun b hb => ⟨(h.zlo b hb).1, Nat.lt_of_lt_of_le (h.zlo b hb).2 kk.size⟩⟩
theorem PS.file_own (f : Nat) (hf : f ∈ blk) : ¬ s.own d f := by
  have hfa := h.files.at_ f hf
  rintro (e | e | e | e | e)
  · exact hfa.ne_disk h.disk.at_ e
  · exact hfa.ne_map h.disk.mN e
  · exact hfa.ne_map h.disk.mD e
  · exact hfa.ne_map h.disk.mF e
  · exact hfa.ne_row h.disk.row (by decide) e

/-- Files as they were. -/
theorem PS.turn {w' : World} {s' : St} {a' : RA} (hI : IsDisk w' d s') (hk : Kept (s.own d) w w') (hown : ∀ i, s'.own d i → s.own d i ∨ w.heap.size ≤ i) (hf : a'.files = a.files)
    (cap : s'.cap = a'.cap) (stop : s'.stop = a'.stop) (ops : s'.ops = a'.cnt) (mN : MapIs blk s'.N a'.dir) (mD : MapIs blk s'.D a'.kept) (pend : s'.pend = a'.pend.map (pe blk)) (used : s'.used = a'.used) (flt : FaultIs s'.F a'.cnt a'.faults) (n : s'.n ≤ (k + 1) * 1000) :
    PIs w' d base (k + 1) (newZ Z w w') a' ∧ KP Z base w w' := by
  refine ⟨⟨s', fs, blk, hI, h.files.kept hk h.file_own (fun f hf i hi => h.files.own f hf i hi) hown, h.nodup, hf ▸ h.len, hf ▸ h.file, cap, stop, ops, mN, mD, pend, used, flt, n, fun i hi => ?_, h.blo, fun f hf b hb => Or.inl (h.zone f hf b hb), fun b hb => ?_⟩, hk.mono (fun i _ hi => h.po_own i hi)⟩
  · rcases hown i hi with e | e
    · exact h.own i e
    · exact Nat.le_trans h.room e
  · rcases hb with hb | hb
    · exact ⟨(h.zlo b hb).1, Nat.lt_of_lt_of_le (h.zlo b hb).2 hk.size⟩
    · exact ⟨Nat.le_trans h.room hb.1, hb.2⟩

/-- Nothing but the count. -/
theorem PS.begun (hq : ∀ x, x ∈ a.faults → 0 ≤ x.1) {w' : World} (hI : IsDisk w' d s.begun) (hk : Kept (s.own d) w w') : PIs w' d base (k + 1) (newZ Z w w') a.begun ∧ KP Z base w w' := by
  refine h.turn hI hk (fun i hi => Or.inl hi) rfl h.cap ?_ ?_ h.mN h.mD h.pend h.used ?_ ?_
  · show bStop s.stop = rStop a.stop
    rw [h.stop]
    rfl
  · show s.ops + 1 = a.cnt + 1
    rw [h.ops]
  · show FaultIs (s.F.del (.int .i64 s.ops)) (a.cnt + 1) (qLeft a.faults)
    rw [h.ops]
    exact h.flt.begun hq
  · exact Nat.le_trans h.n (Nat.mul_le_mul_right _ (Nat.le_succ k))

/-- What a name names. -/
theorem PS.found {name : ByteArray} {f : Int} (hl : lookD a.dir name.data.toList = some f) (ht : TidyD a.files.length a.dir) : ∃ m, ∃ hm : m < blk.length, f = m ∧ s.N.atKey (.string name.data.toList) .nil = .lit (.int .i64 (blk[m] : Nat)) ∧ a.files[m]? = some ((fs blk[m]).bs, ((fs blk[m]).dur : Int)) := by
  obtain ⟨e, h1, h2, h3⟩ := lookD_mem hl
  obtain ⟨m, h4, h5⟩ := ht.lt e h1
  have hm : m < blk.length := by rw [h.len]; exact h5
  refine ⟨m, hm, h3.symm.trans h4, ?_, h.file m hm⟩
  rw [h.mN.at_, hl, ← h3, h4]
  simp [nameV, List.getD, hm]
theorem PS.lost {name : ByteArray} (hl : lookD a.dir name.data.toList = none) : s.N.atKey (.string name.data.toList) .nil = .nil := by
  rw [h.mN.at_, hl]
  rfl
end

theorem PIs.kept {w w' : World} {d base k : Nat} {Z : Nat → Prop} {a : RA} (h : PIs w d base k Z a) {O : Nat → Prop} (kk : Kept O w w') (hO : ∀ i, PO Z base w i → ¬ O i) : PIs w' d base k Z a := by
  obtain ⟨s, fs, blk, h⟩ := h
  exact ⟨s, fs, blk, h.kept kk hO⟩
/-- What the document's disk writes leaves the program's. -/
theorem PIs.doc {w w' : World} {d base k : Nat} {Z : Nat → Prop} {a : RA} (h : PIs w d base k Z a) {base' : Nat} (kk : KT (refS base') w w') : PIs w' d base k Z a := by
  refine h.kept (O := Ty (refS base') w) kk (fun i hi ⟨cs, t, fr, e1, e2⟩ => ?_)
  have e3 : refT t = true := by
    unfold refS at e2
    simp only [Bool.and_eq_true] at e2
    exact e2.2
  rcases hi.2 with ⟨es, c, h3⟩ | ⟨cs', t', fr', h3, h4⟩
  · rw [e1] at h3; cases h3
  · rw [e1] at h3
    simp at h3
    obtain ⟨_, rfl, _⟩ := h3
    rcases h4 with rfl | rfl | rfl | ⟨rfl, _⟩ <;> simp [refT] at e3
theorem PIs.below {w w' : World} {d base k : Nat} {Z : Nat → Prop} {a : RA} (h : PIs w d base k Z a) (hb : Below w.heap.size w w') : PIs w' d base k Z a := h.kept ((Kept.refl (fun _ => False) w).below hb) (fun _ _ e => e)

end Go.Proofs.Ytipakfdebccchaa
