/- Texts that belong together. -/
import Derived.Test.YtmbkcmfcdjccoaaDoorMP53
import Derived.Test.YtmbkcmfcdjccoaaDoorRows
import Derived.Deep.Slices
import Derived.Deep.Strs
import Derived.ProofKit
import Derived.Lib.LaidU8T
import Derived.Lib.LaidIn
import Derived.MakeChecks
import Derived.SizedLaws
import Derived.OpenShut
import Derived.LaidLaws
import Derived.ChangeSlices
import Derived.Lib.MapLaws
import Derived.Lib.ValidLaws
import Derived.Lib.TrimUEq
import Derived.Lib.TrimAscii
/- What the law of classes plays: clip, cut; texts that come in. -/
namespace Go.Proofs.YtmbkcmfcdjccoaaDoor
open Go.RowKit Go.Maps

/-- A slice that reads as these texts. -/
def TextsAt (w : World) (v : Value) (ss : List ByteArray) : Prop :=
  ∃ a c, v = .slice a ss.length c ∧ (ss.length ≤ c ∧ c ≤ maxLen) ∧ ∀ k (hk : k < ss.length), ∃ b o, a = some ⟨b, o, none⟩ ∧ b < w.heap.size ∧ w.cell? ⟨b, o + k, none⟩ = some (.string ss[k]) ∧ ss[k].size ≤ maxLen
theorem TextsAt.below {w w' : World} {v : Value} {ss : List ByteArray} (h : TextsAt w v ss) (hb : Below w.heap.size w w') : TextsAt w' v ss := by
  obtain ⟨a, c, e, hlc, hk⟩ := h
  refine ⟨a, c, e, hlc, fun k hlt => ?_⟩
  obtain ⟨b, o, ha, hl, h1, h2⟩ := hk k hlt
  have := hb.size
  exact ⟨b, o, ha, by omega, (hb.cell (p := ⟨b, o + k, none⟩) hl).trans h1, h2⟩
theorem TextsAt.one {w : World} {a : Option Addr} {c : Nat} {ss : List ByteArray} (h : TextsAt w (.slice a ss.length c) ss) (k : Nat) (hk : k < ss.length) : ∃ b o, a = some ⟨b, o, none⟩ ∧ ss[k].size ≤ maxLen ∧ ∀ w', Below w.heap.size w w' → w'.cell? ⟨b, o + k, none⟩ = some (.string ss[k]) := by
  obtain ⟨a', c', e, -, hc⟩ := h
  cases e
  obtain ⟨b, o, rfl, hb, h1, h2⟩ := hc k hk
  exact ⟨b, o, rfl, h2, fun w' hb' => (hb'.cell (p := ⟨b, o + k, none⟩) hb).trans h1⟩
/-- A text of no more bytes than are played. -/
def clipB (s : ByteArray) : ByteArray := if 60 < s.size then s.extract 0 60 else s
theorem clipB_size (s : ByteArray) : (clipB s).size ≤ 60 := by
  unfold clipB
  split
  · simp
    omega
  · omega
set_option maxRecDepth 100000 in
theorem clip_any (s : ByteArray) (w : World) : Calls Tryd.prog 6 #[.string s] w fun e w' => e = .returned (.string (clipB s)) ∧ w' = w := by
  by_cases h : 60 < s.size
  · have e : clipB s = s.extract 0 60 := by unfold clipB; rw [if_pos h]
    have hz : (60 : Int) < s.size := by omega
    go_enter Tryd.func6, Tryd.ntmps6
    go_wp2
    go_ret
    exact ⟨by first | rfl | (rw [e]; rfl), rfl⟩
  · have e : clipB s = s := by unfold clipB; rw [if_neg h]
    have hz : ¬ (60 : Int) < s.size := by omega
    go_enter Tryd.func6, Tryd.ntmps6
    go_wp2
    go_ret
    exact ⟨by first | rfl | (rw [e]; rfl), rfl⟩
theorem appTxt : App Tryd.prog 22 9 1 := App.of (z := .string ByteArray.empty) (bytes := 16) Tryd.underlying22 (by kernel_rfl) rfl (by decide) (by decide)
def txC (l : List ByteArray) : List Value := l.map Value.string
/-- At most twelve texts, each short. -/
def cutB (l : List ByteArray) : List ByteArray := (l.take 12).map clipB
set_option maxRecDepth 100000 in
set_option maxHeartbeats 800000 in
theorem cut_any (v : Value) (ss : List ByteArray) (w : World) (h : TextsAt w v ss) : Calls Tryd.prog 13 #[v] w fun e w' => ∃ a c, e = .returned (.slice a (cutB ss).length c) ∧ w'.ownsRow w.heap.size 9 1 (.slice a (cutB ss).length c) (cutB ss).length (txC (cutB ss)) ∧ Below w.heap.size w w' := by
  obtain ⟨va, vc, rfl, -⟩ := id h
  have HT := hide h
  clear h
  obtain ⟨n, hn⟩ : ∃ n, n = ss.length := ⟨_, rfl⟩
  have HN := hide hn
  rw [← hn] at HT ⊢
  clear hn
  go_enter Tryd.func13, Tryd.ntmps13
  go_wp2
  go_loopw [3, 4] (fun ov iv wx => ∃ (k : Nat) (a : Option Addr) (c : Nat), iv = .int .i64 k ∧ k ≤ n ∧ k ≤ 12 ∧ ov = .slice a k c ∧ Hid (wx.ownsRow w.heap.size 9 1 (.slice a k c) k (txC ((ss.take k).map clipB)) ∧ Below w.heap.size w wx)) (fun _ iv _ => 12 - (intOf iv).toNat)
  case atStart => exact ⟨0, none, 0, rfl, Nat.zero_le _, Nat.zero_le _, rfl, by simpa [txC] using World.ownsRow_nil w w.heap.size 9 1, Below.refl _ _⟩
  case round =>
    obtain ⟨k, a, c, rfl, hk, hk12, rfl, HR⟩ := hrel
    by_cases hlt : k < n ∧ k < 12
    · obtain ⟨h1, h2⟩ := hlt
      have hkl : k < ss.length := by rw [← HN.out]; exact h1
      have hz1 : (k : Int) < n := by omega
      have hz2 : (k : Int) < 12 := by omega
      have hT2 := HT.out
      rw [HN.out] at hT2
      obtain ⟨b, o, rfl, hsz, hc⟩ := hT2.one k hkl
      have c0 := hc wr HR.out.2
      have hx : (ss.take (k + 1)).map clipB = (ss.take k).map clipB ++ [clipB ss[k]] := by rw [List.take_succ_eq_append_getElem hkl, List.map_append]; rfl
      generalize ss[k] = x at *
      have HX := hide hx
      have hA : ∀ o, (wr.alloc o).ownsRow w.heap.size 9 1 (.slice a k c) k (txC ((ss.take k).map clipB)) := fun o => World.ownsRow.alloc HR.out.1 o
      have HA := hide hA
      clear hc hT2 hx hA
      go_wp2_with (first
        | (go_at_call 6; refine (clip_any x _).mono ?_; rintro e w1 ⟨rfl, hw1⟩; have hw1 := hw1.symm; subst hw1)
        | (at_builtin; refine wpList_append_row appTxt _ rfl _ _ rfl w.heap.size (.slice a k c) k (txC ((ss.take k).map clipB)) rfl (HA.out _) _ 1 [.string (clipB x)] rfl (RowAt.of_block (cs := #[.string (clipB x)]) (heap_alloc_new _ _) rfl (by decide)) (by simp [Value.oneCell']) (by omega) (by have := HR.out.2.size; simp; omega) ?_; intro a5 c5 w5 hr5 hg5 _; have hR5 : w5.ownsRow w.heap.size 9 1 (.slice a5 (k + 1) c5) (k + 1) (txC ((ss.take (k + 1)).map clipB)) ∧ Below w.heap.size w w5 := ⟨by rw [HX.out]; simpa [txC] using hr5, (HR.out.2.alloc HR.out.2.size _).grown hg5 (by have := HR.out.2.size; simp; omega) (fun i hi => (World.ownsRow.lt HR.out.1 i hi).1)⟩; have HR5 := hide hR5; clear hR5 hr5 hg5))
      go_roundw
      case rel => exact ⟨k + 1, a5, c5, by go_num, by omega, by omega, rfl, HR5⟩
      case measure => simp [intOf]; omega
    · have hend : cutB ss = (ss.take k).map clipB ∧ (cutB ss).length = k := by
        have h9 := HN.out
        have h8 : ss.take 12 = ss.take k := by
          by_cases h7 : k < 12
          · rw [List.take_of_length_le (by omega), List.take_of_length_le (by omega)]
          · rw [show k = 12 by omega]
        unfold cutB
        rw [h8]
        refine ⟨rfl, by simp; omega⟩
      have HE := hide hend
      clear hend
      by_cases h1 : k < n
      · have hz1 : (k : Int) < n := by omega
        have hz2 : ¬ (k : Int) < 12 := by omega
        go_wp2
        go_ret
        exact ⟨a, c, by rw [HE.out.2]; rfl, by rw [HE.out.2, HE.out.1]; exact HR.out.1, HR.out.2⟩
      · have hz1 : ¬ (k : Int) < n := by omega
        go_wp2
        go_ret
        exact ⟨a, c, by rw [HE.out.2]; rfl, by rw [HE.out.2, HE.out.1]; exact HR.out.1, HR.out.2⟩
end Go.Proofs.YtmbkcmfcdjccoaaDoor

/- What comes in at the laws of quoting, of alternatives and of repeats: texts; utf8's tables. -/
namespace Go.Proofs.YtmbkcmfcdjccoaaDoor
open Go.ChangeShapes Go.WideShapes Go.ChangeAt Go.RowKit
open Go.Deep (open_slice choose_lt)

theorem own : ownKnob Tryd.prog.godebug = none := by kernel_rfl
theorem laidOut : laidOutB Tryd.prog = true := by kernel_rfl
theorem cells9 : Tryd.prog.cellsOf 9 = 1 := by kernel_rfl
theorem cellsTs : Tryd.prog.cellsOf 22 = 1 := by kernel_rfl
/-- What the row's list gives: utf8's tables. -/
theorem env_of {W : World} (h : laidMetH Tryd.prog Rows.regexQuoteRow.laid W) : Env8 W W.heap.size := by
  rw [MakeChecks.laidMetH_plain _ _ _ (by kernel_rfl)] at h
  have e1 : Rows.laid_unicode_utf8_first = Lib.firstData := by kernel_rfl
  have e2 : (Rows.laid_unicode_utf8_acceptRanges : DataW Unit) = Lib.acceptData := by kernel_rfl
  have h3 := Lib.laidMet.reads h (n := "unicode/utf8.first") (d := Rows.laid_unicode_utf8_first) (.tail _ (.head _))
  have h4 := Lib.laidMet.reads h (n := "unicode/utf8.acceptRanges") (d := Rows.laid_unicode_utf8_acceptRanges) (.head _)
  rw [e1] at h3
  rw [e2] at h4
  have ht := utf8Tabs_of_readsT (ρ := Tryd.decode_ren) { Tryd.decode with } ⟨by kernel_rfl, by kernel_rfl, by kernel_rfl, by kernel_rfl, by kernel_rfl, by kernel_rfl, by kernel_rfl⟩ h3 h4
  have g3 : Tryd.decode_ren.g 3 < W.heap.size := World.block_lt_of_cell? W _ (ht.1 0 (by decide))
  have g4 : Tryd.decode_ren.g 4 < W.heap.size := World.block_lt_of_cell? W _ (ht.2 0 (by decide)).1
  intro V hV
  have hc : ∀ (b j : Nat), b < W.heap.size → V.cell? ⟨b, j, none⟩ = W.cell? ⟨b, j, none⟩ := fun b j hb => by
    unfold World.cell?
    simp only [hV b hb]
  refine ⟨fun c hc' => ?_, fun i hi => ⟨?_, ?_⟩⟩
  · rw [hc _ _ g3]; exact ht.1 c hc'
  · rw [hc _ _ g4]; exact (ht.2 i hi).1
  · rw [hc _ _ g4]; exact (ht.2 i hi).2
def putC (cs : Array Value) : Obj → Obj
  | .cells _ t frozen => .cells cs t frozen
  | o => o
/-- A world that holds the two tables. -/
def laidW (w0 : World) : World := { w0 with heap := (w0.heap.modify 0 (putC (Lib.firstTab.map fun z => Value.int .u8 z).toArray)).modify 1 (putC ((List.range 16).flatMap fun i => [Value.int .u8 (Lib.accLo i), Value.int .u8 (Lib.accHi i)]).toArray) }

section
variable {H : Type} {enc : TypeId × Value → H} {w : World}
/-- A slice of texts. -/
theorem texts_came {a : Option Addr} {len cap : Nat} {d : DataW H} {p : List MemPlace} (h : DataW.Trod enc Tryd.prog w 0 (fun _ => true) true 22 (.slice a len cap) d p) :
    ∃ ss : List ByteArray, ss.length = len ∧ TextsAt w (.slice a len cap) ss := by
  obtain ⟨fuel, hf⟩ := h
  rcases open_strings Tryd.underlying22 Tryd.underlying9 cells9 hf with ⟨hcs, hx⟩ | ⟨x, len', cap', ss, hcs, _, hl, hm, hz, hx, hcell, hws⟩
  · simp [Value.cells] at hcs
    obtain ⟨rfl, rfl, rfl⟩ := hcs
    exact ⟨[], rfl, none, 0, rfl, ⟨Nat.zero_le _, Nat.zero_le _⟩, fun k hk => absurd hk (Nat.not_lt_zero _)⟩
  · simp [Value.cells] at hcs
    obtain ⟨rfl, rfl, rfl⟩ := hcs
    simp only [if_true] at hz
    have hlen : (ss.take len).length = len := by simp; omega
    refine ⟨ss.take len, hlen, some x, cap, by rw [hlen], ⟨by omega, by omega⟩, fun k hk => ?_⟩
    have hk' : k < len := by omega
    obtain ⟨b, off, spot⟩ := x
    have hspot : spot = none := by simpa [Addr.add] using World.cell?_spot (hcell 0 (by omega))
    subst hspot
    have hkc := hcell k (by omega)
    rw [add_plain] at hkc
    have e : ss.getD k ByteArray.empty = (ss.take len)[k] := by simp [List.getD, show k < ss.length by omega]
    rw [e] at hkc
    exact ⟨b, off, rfl, World.block_lt_of_cell? w _ hkc, hkc, hws _ (by simp)⟩
end
end Go.Proofs.YtmbkcmfcdjccoaaDoor

/- Texts as characters: pure. -/
namespace Go.Proofs.YtmbkcmfcdjccoaaDoor
open Go.Lib

/-- What is decoded speaks of the bytes of its width alone. -/
theorem dec_cut {n b0 b1 b2 b3 m d1 d2 d3 : Nat} (hv : ¬ ((decodeN n b0 b1 b2 b3).1 = 65533 ∧ (decodeN n b0 b1 b2 b3).2 = 1)) (hm : (decodeN n b0 b1 b2 b3).2 ≤ m)
    (h1 : 1 < (decodeN n b0 b1 b2 b3).2 → d1 = b1) (h2 : 2 < (decodeN n b0 b1 b2 b3).2 → d2 = b2) (h3 : 3 < (decodeN n b0 b1 b2 b3).2 → d3 = b3) :
    decodeN m b0 d1 d2 d3 = decodeN n b0 b1 b2 b3 := by
  rcases decodeN_shape n b0 b1 b2 b3 with ⟨c, e⟩ | ⟨c1, c2, c3, cv, e⟩ | ⟨c1, c2, c3, c4, cv, cs, e⟩ | ⟨c1, c2, c3, c4, c5, cv, cw, e⟩ | e
  · rw [e]
    unfold decodeN
    rw [if_pos c]
  · rw [e] at hm h1 ⊢
    have e1 := h1 (by show _ < _; dsimp only; omega)
    subst e1
    dsimp only at hm
    unfold decodeN
    rw [if_neg (by omega), if_pos ⟨c1, by omega, c3⟩, if_pos (by omega)]
  · rw [e] at hm h1 h2 ⊢
    have e1 := h1 (by show _ < _; dsimp only; omega)
    have e2 := h2 (by show _ < _; dsimp only; omega)
    subst e1 e2
    dsimp only at hm
    unfold decodeN
    rw [if_neg (by omega), if_neg (by omega), if_pos ⟨c1, ⟨by omega, c3⟩, by omega, c4⟩, if_pos (by omega)]
  · rw [e] at hm h1 h2 h3 ⊢
    have e1 := h1 (by show _ < _; dsimp only; omega)
    have e2 := h2 (by show _ < _; dsimp only; omega)
    have e3 := h3 (by show _ < _; dsimp only; omega)
    subst e1 e2 e3
    dsimp only at hm
    unfold decodeN
    rw [if_neg (by omega), if_neg (by omega), if_neg (by omega), if_pos ⟨c1, ⟨by omega, c3⟩, ⟨by omega, c4⟩, by omega, c5⟩, if_pos (by omega)]
  · rw [e] at hv
    exact absurd ⟨rfl, rfl⟩ hv

/-- The bytes of a character. -/
def chB (c : Nat) : List UInt8 := encodeRune (c : Int)
/-- A character of UTF-8. -/
structure ChF (c : Nat) : Prop where
  dec : ∀ r, decodeL (chB c ++ r) = (c, (chB c).length)
  pos : 0 < (chB c).length
  low : (∃ b : UInt8, chB c = [b] ∧ b.toNat = c ∧ c < 128) ∨ ∀ b ∈ chB c, 128 ≤ b.toNat
theorem getD_app_lt {l r : List UInt8} {i : Nat} (h : i < l.length) : (l ++ r).getD i 0 = l.getD i 0 := by
  simp [List.getD_eq_getElem?_getD, List.getElem?_append_left h]
theorem ch_of {l : List UInt8} (hne : l ≠ []) (hv : ¬ ((decodeL l).1 = 65533 ∧ (decodeL l).2 = 1)) : ChF (decodeL l).1 ∧ l = chB (decodeL l).1 ++ l.drop (decodeL l).2 ∧ (chB (decodeL l).1).length = (decodeL l).2 := by
  have he : chB (decodeL l).1 = l.take (decodeL l).2 := encode_decode l hne hv
  have hle := decodeL_le l hne
  have hw := decodeL_width l
  have hlen : (chB (decodeL l).1).length = (decodeL l).2 := by rw [he, List.length_take]; omega
  refine ⟨⟨fun r => ?_, by omega, ?_⟩, by rw [he, List.take_append_drop], hlen⟩
  · have hg : ∀ i, i < (decodeL l).2 → (chB (decodeL l).1 ++ r).getD i 0 = l.getD i 0 := fun i hi => by
      rw [getD_app_lt (by omega), he, getD_takeU _ _ _ hi]
    rw [hlen]
    have hd : decodeL (chB (decodeL l).1 ++ r) = decodeL l := by
      have h0 := hg 0 (by omega)
      have h1 := hg 1
      have h2 := hg 2
      have h3 := hg 3
      have hm : (decodeL l).2 ≤ (chB (decodeL l).1 ++ r).length := by rw [List.length_append]; omega
      generalize chB (decodeL l).1 ++ r = q at *
      rw [decodeL_N q, decodeL_N l, h0]
      rw [decodeL_N l] at hv hm h1 h2 h3
      exact dec_cut hv hm (fun h => by rw [h1 h]) (fun h => by rw [h2 h]) (fun h => by rw [h3 h])
    rw [hd]
  · rw [he]
    have k : ∀ i, l.getD i 0 = (l[i]?).getD 0 := fun i => List.getD_eq_getElem?_getD ..
    have hmem : ∀ b ∈ l.take (decodeL l).2, ∃ i, i < (decodeL l).2 ∧ l.getD i 0 = b := fun b hb => by
      obtain ⟨i, hi⟩ := List.mem_iff_getElem?.1 hb
      have hlt : i < (l.take (decodeL l).2).length := (List.getElem?_eq_some_iff.1 hi).1
      rw [List.length_take] at hlt
      refine ⟨i, by omega, ?_⟩
      rw [← getD_takeU l (decodeL l).2 i (by omega), List.getD_eq_getElem?_getD, hi]
      rfl
    have hhead : ∀ t, l.take 1 = t → t = [l.getD 0 0] := fun t ht => by
      cases l with
      | nil => exact absurd rfl hne
      | cons b t => rw [← ht]; rfl
    rw [decodeL_N] at hv hmem ⊢
    rcases decodeN_shape l.length (l.getD 0 0).toNat (l.getD 1 0).toNat (l.getD 2 0).toNat (l.getD 3 0).toNat with ⟨c, e⟩ | ⟨c1, c2, c3, cv, e⟩ | ⟨c1, c2, c3, c4, cv, cs, e⟩ | ⟨c1, c2, c3, c4, c5, cv, cw, e⟩ | e
    · rw [e]
      exact Or.inl ⟨l.getD 0 0, hhead _ rfl, rfl, c⟩
    · right
      intro b hb
      obtain ⟨i, hi, rfl⟩ := hmem b hb
      rw [e] at hi
      rcases (by omega : i = 0 ∨ i = 1) with rfl | rfl
      all_goals omega
    · right
      intro b hb
      obtain ⟨i, hi, rfl⟩ := hmem b hb
      rw [e] at hi
      rcases (by omega : i = 0 ∨ i = 1 ∨ i = 2) with rfl | rfl | rfl
      all_goals omega
    · right
      intro b hb
      obtain ⟨i, hi, rfl⟩ := hmem b hb
      rw [e] at hi
      rcases (by omega : i = 0 ∨ i = 1 ∨ i = 2 ∨ i = 3) with rfl | rfl | rfl | rfl
      all_goals omega
    · rw [e] at hv
      exact absurd ⟨rfl, rfl⟩ hv
/-- The bytes of characters. -/
def txB (cs : List Nat) : List UInt8 := cs.flatMap chB
theorem chars_of : ∀ (n : Nat) (l : List UInt8), l.length ≤ n → validD l = true → ∃ cs, l = txB cs ∧ ∀ c ∈ cs, ChF c
  | n, [], _, _ => ⟨[], rfl, fun c h => by cases h⟩
  | 0, b :: t, h, _ => by simp at h
  | n + 1, b :: t, h, hv => by
    rw [validD_step _ (by simp)] at hv
    by_cases hb : (decodeL (b :: t)).1 = 65533 ∧ (decodeL (b :: t)).2 = 1
    · rw [if_pos hb] at hv
      cases hv
    · rw [if_neg hb] at hv
      obtain ⟨h1, h2, h3⟩ := ch_of (l := b :: t) (by simp) hb
      have hp := h1.pos
      obtain ⟨cs, h4, h5⟩ := chars_of n ((b :: t).drop (decodeL (b :: t)).2) (by rw [List.length_drop]; omega) hv
      refine ⟨(decodeL (b :: t)).1 :: cs, ?_, ?_⟩
      · rw [h4] at h2
        exact h2
      · intro c hc
        rcases List.mem_cons.1 hc with rfl | hc
        · exact h1
        · exact h5 c hc
theorem txB_inj : ∀ {ds cs : List Nat}, (∀ d ∈ ds, ChF d) → (∀ c ∈ cs, ChF c) → txB ds = txB cs → ds = cs
  | [], [], _, _, _ => rfl
  | [], c :: u, _, hc, h => by
    have h1 := (hc c (by simp)).pos
    have h2 := congrArg List.length h
    have h2 : 0 = (chB c ++ txB u).length := h2
    rw [List.length_append] at h2
    omega
  | d :: t, [], hd, _, h => by
    have h1 := (hd d (by simp)).pos
    have h2 := congrArg List.length h
    have h2 : (chB d ++ txB t).length = 0 := h2
    rw [List.length_append] at h2
    omega
  | d :: t, c :: u, hd, hc, h => by
    have h : chB d ++ txB t = chB c ++ txB u := h
    have h1 := (hd d (by simp)).dec (txB t)
    have h2 := (hc c (by simp)).dec (txB u)
    rw [h, h2] at h1
    injection h1 with h1 h3
    subst h1
    rw [txB_inj (fun x hx => hd x (by simp [hx])) (fun x hx => hc x (by simp [hx])) (List.append_cancel_left h)]
end Go.Proofs.YtmbkcmfcdjccoaaDoor
