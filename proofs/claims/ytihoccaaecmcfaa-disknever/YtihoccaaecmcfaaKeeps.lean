/- For every two slices of bytes and every slice of numbers DiskKeeps returns true and leaves its arguments as they were: what was synced, with its directory, is there behind a crash with any cuts, and of the rest a beginning. No condition. -/
import Derived.Test.YtihoccaaecmcfaaRows
import Derived.Test.YtihoccaaecmcfaaWj
import Derived.ProofKit
import Derived.OpenShut
namespace Go.Proofs.Ytihoccaaecmcfaa
open Go.ChangeShapes Go.WideShapes Go.ChangeAt Go.RowKit

theorem ownKeeps : ownKnob Try.prog.godebug = none := by kernel_rfl
theorem laidKeeps : laidOutB Try.prog = true := by kernel_rfl

/-- A slice of numbers that came in. -/
def CameIn (q : IntKind) (w : World) (a : Option Addr) (len cap : Nat) (zs : List Int) : Prop :=
  (a = none ∧ len = 0 ∧ cap = 0 ∧ zs = []) ∨ ∃ x, a = some x ∧ len ≤ cap ∧ cap ≤ maxLen ∧ zs.length = cap ∧ (∀ i, i < zs.length → w.cell? (x.add i) = some (.int q (zs.getD i 0))) ∧ ∀ n ∈ zs, (Lit.int q n).wf = true

theorem u8_wf {n : Int} (h : (Lit.int .u8 n).wf = true) : ((UInt8.ofNat n.toNat).toNat : Int) = n := by
  have := bounds_u8 h
  have e : (UInt8.ofNat n.toNat).toNat = n.toNat % 256 := by simp
  rw [e]
  omega

theorem CameIn.bytes {w : World} {a : Option Addr} {len cap : Nat} {zs : List Int} (h : CameIn .u8 w a len cap zs) : ∃ bs : List UInt8, bs.length = len ∧ BytesAt w (.slice a len cap) bs ∧ (∀ k, (Value.slice a len cap).ownBlock = some k → bs ≠ [] → k < w.heap.size) := by
  rcases h with ⟨rfl, rfl, rfl, rfl⟩ | ⟨x, rfl, h1, h2, h3, h4, h5⟩
  · exact ⟨[], rfl, Or.inl ⟨rfl, rfl⟩, fun k hk => by cases hk⟩
  · have hlen : ((zs.take len).map fun n => UInt8.ofNat n.toNat).length = len := by simp; omega
    refine ⟨(zs.take len).map fun n => UInt8.ofNat n.toNat, hlen, Or.inr ⟨x, cap, by rw [hlen], by omega, h2, fun j u hj => ?_⟩, fun k hk hne => ?_⟩
    · have hjl : j < len := by
        have := (List.getElem?_eq_some_iff.1 hj).1
        rw [byteVals_length, hlen] at this
        exact this
      have hz : zs[j]? = some (zs.getD j 0) := by simp [List.getD, show j < zs.length by omega]
      have hw := h5 (zs.getD j 0) (List.mem_of_getElem? hz)
      have e : (byteVals ((zs.take len).map fun n => UInt8.ofNat n.toNat))[j]? = some (.int .u8 (zs.getD j 0)) := by
        simp only [byteVals, List.map_map, List.getElem?_map, List.getElem?_take, hjl, if_true, hz, Option.map_some, Function.comp]
        rw [u8_wf hw]
      rw [e] at hj
      cases hj
      exact h4 j (by omega)
    · simp [Value.ownBlock] at hk
      subst hk
      have h0 : 0 < zs.length := by
        rcases Nat.eq_zero_or_pos len with e | e
        · subst e; simp at hne
        · omega
      have := World.block_lt_of_cell? w _ (h4 0 h0)
      rwa [add_block] at this

theorem CameIn.cuts {w : World} {a : Option Addr} {len cap : Nat} {zs : List Int} (h : CameIn .i64 w a len cap zs) : ∃ cs : List Int, CutsAt w (.slice a len cap) cs ∧ (∀ k o l c, Value.slice a len cap = .slice (some ⟨k, o, none⟩) l c → cs ≠ [] → k < w.heap.size) := by
  rcases h with ⟨rfl, rfl, rfl, rfl⟩ | ⟨x, rfl, h1, h2, h3, h4, h5⟩
  · exact ⟨[], ⟨⟨none, 0, rfl⟩, fun j x hj => by simp at hj⟩, fun k o l c e => by cases e⟩
  · have hlen : (zs.take len).length = len := by simp; omega
    refine ⟨zs.take len, ⟨⟨some x, cap, by rw [hlen]⟩, fun j y hj => ?_⟩, fun k o l c e hne => ?_⟩
    · have hjl : j < len := by
        have := (List.getElem?_eq_some_iff.1 hj).1
        omega
      have hc := h4 j (by omega)
      obtain ⟨b, o, spot⟩ := x
      have hspot : spot = none := by simpa [Addr.add] using World.cell?_spot (h4 0 (by omega))
      subst hspot
      refine ⟨b, o, len, cap, rfl, ?_⟩
      rw [add_plain] at hc
      rw [hc]
      simp only [List.getElem?_take, hjl, if_true] at hj
      simp [List.getD, hj]
    · cases e
      have h0 : 0 < zs.length := by
        rcases Nat.eq_zero_or_pos len with e | e
        · subst e; simp at hne
        · omega
      have := World.block_lt_of_cell? w _ (h4 0 h0)
      rwa [add_block] at this

theorem keeps_any (a0 b0 : Option Addr) (al ac bl bc : Nat) (cv : Value) (a b : List UInt8) (cs : List Int) (w : World) (hal : a.length = al) (hbl : b.length = bl) (ha : BytesAt w (.slice a0 al ac) a) (hb : BytesAt w (.slice b0 bl bc) b) (hc : CutsAt w cv cs)
    (hla : ∀ k, (Value.slice a0 al ac).ownBlock = some k → a ≠ [] → k < w.heap.size) (hlb : ∀ k, (Value.slice b0 bl bc).ownBlock = some k → b ≠ [] → k < w.heap.size) (hlc : ∀ k o l c, cv = .slice (some ⟨k, o, none⟩) l c → cs ≠ [] → k < w.heap.size) :
    Calls Try.prog 4 #[.slice a0 al ac, .slice b0 bl bc, cv] w fun e w' => e = .returned (.bool true) ∧ Below w.heap.size w w' := by
  have cutA : ∀ (v0 : Option Addr) (l c : Nat) (x : List UInt8), x.length = l → 1000 < l → BytesAt w (.slice v0 l c) x → (∀ k, (Value.slice v0 l c).ownBlock = some k → x ≠ [] → k < w.heap.size) → BytesAt w (.slice v0 1000 c) (x.take 1000) ∧ (∀ k, (Value.slice v0 1000 c).ownBlock = some k → x.take 1000 ≠ [] → k < w.heap.size) ∧ (x.take 1000).length ≤ 1000 ∧ 1000 ≤ c := fun v0 l c x hx hl hb hlow => by
    refine ⟨hb.cut (k := 1000) (by omega), fun k hk hne => hlow k ?_ (fun e => hne (by rw [e]; rfl)), by simp; omega, ?_⟩
    · cases v0 <;> exact hk
    · obtain ⟨_, _, e, h1, _⟩ := hb.shape
      cases e
      omega
  by_cases h1 : al ≤ 1000 <;> by_cases h2 : bl ≤ 1000
  · subst hal hbl
    exact keeps_walk00 a0 b0 ac bc cv a b cs w ha hb hc hla hlb hlc h1 h2
  · subst hal
    obtain ⟨b1, b2, b3, b4⟩ := cutA b0 bl bc b hbl (by omega) hb hlb
    exact keeps_walk01 bl a0 b0 ac bc cv a (b.take 1000) cs w ha b1 hc hla b2 hlc h1 b3 (by omega) (by omega) b4
  · subst hbl
    obtain ⟨a1, a2, a3, a4⟩ := cutA a0 al ac a hal (by omega) ha hla
    exact keeps_walk10 al a0 b0 ac bc cv (a.take 1000) b cs w a1 hb hc a2 hlb hlc a3 (by omega) (by omega) a4 h2
  · obtain ⟨b1, b2, b3, b4⟩ := cutA b0 bl bc b hbl (by omega) hb hlb
    obtain ⟨a1, a2, a3, a4⟩ := cutA a0 al ac a hal (by omega) ha hla
    exact keeps_walk11 al bl a0 b0 ac bc cv (a.take 1000) (b.take 1000) cs w a1 b1 hc a2 b2 hlc a3 (by omega) (by omega) a4 b3 (by omega) (by omega) b4

set_option maxRecDepth 100000 in
theorem keeps_lifted (os : Os) (started : os.Started) (H : Type) (enc : TypeId × Value → H) :
    ReturnsInHanded {} Try.checked os 4 .any (Rows.diskKeepsSpec.pre6 enc Try.prog Try.f4 Rows.diskKeepsRow.domain false) (Rows.diskKeepsSpec.post enc Try.prog Try.f4 false true false false) := by
  refine returnsInHanded_of_change (C := Try.checked) ownKeeps started (by kernel_rfl) Try.func4
    (ChangeSpec.witness6 (enc := enc) (C := Try.checked) false ⟨#[], #[.slice none 0 0, .slice none 0 0, .slice none 0 0], []⟩ 8 (by kernel_rfl) (by kernel_rfl) (by kernel_rfl) (by kernel_rfl)) ?_
  intro W base args ds gs before hval0 hW _ _
  have hval : ∀ (j : Nat) t v, Try.f4.params[j]? = some t → args[j]? = some v → Value.okWide Try.prog W .any base t v := hval0
  have hW' := hW
  obtain ⟨p, q, hA0, hV, rfl, _, _⟩ := hW
  have hA : DataW.TrodAll enc Try.prog W 0 (fun _ => true) true Try.f4.params.toList args.toList ds p := hA0
  rw [Try.params4] at hA hval
  obtain ⟨v0, v1, v2, d0, d1, d2, p0, p1, p2, rfl, rfl, rfl, h0, h1, h2⟩ := trodAll_three hA
  obtain ⟨rfl, rfl⟩ := trodVars_none hV
  obtain ⟨a0, len0, cap0, rfl⟩ := okWide_slice Try.underlying31 (hval 0 31 v0 rfl rfl)
  obtain ⟨a1, len1, cap1, rfl⟩ := okWide_slice Try.underlying31 (hval 1 31 v1 rfl rfl)
  obtain ⟨a2, len2, cap2, rfl⟩ := okWide_slice Try.underlying32 (hval 2 32 v2 rfl rfl)
  have lt0 : ∀ x ∈ p0, x.block < W.heap.size := by obtain ⟨m, hm⟩ := h0; exact DataW.trod_lt m _ _ _ hm
  have lt1 : ∀ x ∈ p1, x.block < W.heap.size := by obtain ⟨m, hm⟩ := h1; exact DataW.trod_lt m _ _ _ hm
  have lt2 : ∀ x ∈ p2, x.block < W.heap.size := by obtain ⟨m, hm⟩ := h2; exact DataW.trod_lt m _ _ _ hm
  obtain ⟨z0, w0⟩ : ∃ zs, CameIn .u8 W a0 len0 cap0 zs := by
    obtain ⟨fuel, hf⟩ := h0
    rcases open_ints Try.underlying31 Try.underlying5 (by kernel_rfl) hf with ⟨hcs, _⟩ | ⟨x, l, c, zs, hcs, _, hl, hm, hz, _, hcell, hwz⟩
    · simp [Value.cells] at hcs
      obtain ⟨rfl, rfl, rfl⟩ := hcs
      exact ⟨[], .inl ⟨rfl, rfl, rfl, rfl⟩⟩
    · simp [Value.cells] at hcs
      obtain ⟨rfl, rfl, rfl⟩ := hcs
      exact ⟨zs, .inr ⟨_, rfl, hl, hm, by simpa using hz, hcell, hwz⟩⟩
  obtain ⟨z1, w1⟩ : ∃ zs, CameIn .u8 W a1 len1 cap1 zs := by
    obtain ⟨fuel, hf⟩ := h1
    rcases open_ints Try.underlying31 Try.underlying5 (by kernel_rfl) hf with ⟨hcs, _⟩ | ⟨x, l, c, zs, hcs, _, hl, hm, hz, _, hcell, hwz⟩
    · simp [Value.cells] at hcs
      obtain ⟨rfl, rfl, rfl⟩ := hcs
      exact ⟨[], .inl ⟨rfl, rfl, rfl, rfl⟩⟩
    · simp [Value.cells] at hcs
      obtain ⟨rfl, rfl, rfl⟩ := hcs
      exact ⟨zs, .inr ⟨_, rfl, hl, hm, by simpa using hz, hcell, hwz⟩⟩
  obtain ⟨z2, w2⟩ : ∃ zs, CameIn .i64 W a2 len2 cap2 zs := by
    obtain ⟨fuel, hf⟩ := h2
    rcases open_ints Try.underlying32 Try.underlying3 (by kernel_rfl) hf with ⟨hcs, _⟩ | ⟨x, l, c, zs, hcs, _, hl, hm, hz, _, hcell, hwz⟩
    · simp [Value.cells] at hcs
      obtain ⟨rfl, rfl, rfl⟩ := hcs
      exact ⟨[], .inl ⟨rfl, rfl, rfl, rfl⟩⟩
    · simp [Value.cells] at hcs
      obtain ⟨rfl, rfl, rfl⟩ := hcs
      exact ⟨zs, .inr ⟨_, rfl, hl, hm, by simpa using hz, hcell, hwz⟩⟩
  obtain ⟨x0, l0, b0, o0⟩ := w0.bytes
  obtain ⟨x1, l1, b1, o1⟩ := w1.bytes
  obtain ⟨cs, hc, oc⟩ := w2.cuts
  clear hA0 hval0
  simp only [List.append_nil] at hW'
  refine (keeps_any a0 a1 len0 cap0 len1 cap1 _ x0 x1 cs W l0 l1 b0 b1 hc o0 o1 oc).mono fun e W' ⟨he, bel⟩ => ?_
  subst he
  exact ⟨_, rfl, _, _, _, [], _, [], hW', trodAll_mk1 (shut_bool Try.underlying4 true),
    trodAll_mk3 (Below.trod laidKeeps (by kernel_rfl) (of_decide_eq_true (by kernel_rfl)) h0 bel lt0) (Below.trod laidKeeps (by kernel_rfl) (of_decide_eq_true (by kernel_rfl)) h1 bel lt1) (Below.trod laidKeeps (by kernel_rfl) (of_decide_eq_true (by kernel_rfl)) h2 bel lt2), rfl, bel.frame _, fun h => by cases h⟩

theorem diskKeeps_holds : Rows.DiskKeepsSaid :=
  OpenClaim.holds_of_wide 4 Try.f4 rfl rfl rfl rfl rfl rfl rfl ⟨rfl, rfl, rfl, rfl, rfl⟩ rfl rfl rfl rfl rfl (by kernel_rfl) Try.func4 (by kernel_rfl)
    (of_decide_eq_true (by kernel_rfl)) (by unfold Func.isWrapper; first | (rw [if_pos (by decide +kernel)]; kernel_rfl) | (rw [if_neg (by decide +kernel)]; exact ⟨rfl, rfl⟩))
    (fun os started H enc _ => keeps_lifted os started H enc)

end Go.Proofs.Ytihoccaaecmcfaa
