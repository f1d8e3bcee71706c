/- Texts that belong together. -/
import Derived.Test.YtmbkcmfcdjccoaaDoorMP61
import Derived.Shelf.Lays
import Derived.Shelf.Strings.Builder1
import Derived.KernelRfl
import Derived.Test.YtmbkcmfcdjccoaaDoorProg
/- A quoted text, run: pure. It means itself alone. -/
namespace Go.Proofs.YtmbkcmfcdjccoaaDoor
open Go.RowKit Go.Maps

section
variable {cs : List Nat} {E a : Nat} {nt : Bool}
theorem tak_at {j : Nat} (hj : j < cs.length) : (cs.map takT ++ [Stp.yes])[j]? = some (takT (cs[j])) := by
  rw [List.getElem?_append_left (by simpa using hj)]
  simp [hj]
theorem yes_at : (cs.map takT ++ [Stp.yes])[cs.length]? = some .yes := by
  rw [List.getElem?_append_right (by simp)]
  simp
theorem fol_tak {j k : Nat} {l : List (Nat × Nat)} {met : List Nat} {wait : List Th} {fnd : Option (List (Nat × Nat))} (hj : j < cs.length) (hm : met[j]? ≠ some (a + 1)) :
    folF (cs.map takT ++ [.yes]) E a nt (k + 2) none ⟨met, [(j, l)], wait, fnd⟩ = ⟨met.set j (a + 1), [], wait ++ [(j, l)], fnd⟩ := by
  rw [folF]
  show folF _ E a nt (k + 1) (some (j, l)) ⟨met, [], wait, fnd⟩ = _
  rw [folF, if_neg hm, tak_at hj]
  show folF _ E a nt k none ⟨met.set j (a + 1), [], wait ++ [(j, l)], fnd⟩ = _
  cases k with
  | zero => rw [folF]
  | succ k => rw [folF]; rfl
theorem fol_yes {k : Nat} {l : List (Nat × Nat)} {met : List Nat} {wait : List Th} {fnd : Option (List (Nat × Nat))} (hm : met[cs.length]? ≠ some (a + 1)) :
    folF (cs.map takT ++ [.yes]) E a nt (k + 2) none ⟨met, [(cs.length, l)], wait, fnd⟩ = ⟨met.set cs.length (a + 1), [], wait, if a < E then fnd else some l⟩ := by
  rw [folF]
  show folF _ E a nt (k + 1) (some (cs.length, l)) ⟨met, [], wait, fnd⟩ = _
  rw [folF, if_neg hm, yes_at]
  show (if a < E then folF _ E a nt k none ⟨met.set cs.length (a + 1), [], wait, fnd⟩ else ⟨met.set cs.length (a + 1), [], wait, some l⟩) = _
  by_cases h : a < E
  · rw [if_pos h, if_pos h]
    cases k with
    | zero => rw [folF]
    | succ k => rw [folF]; rfl
  · rw [if_neg h, if_neg h]
end
theorem takes_tak {cs : List Nat} {j d : Nat} (hj : j < cs.length) : takesS (cs.map takT ++ [Stp.yes]) j d = decide (cs[j] = d) := by
  unfold takesS
  rw [tak_at hj]
  show (memS [((cs[j] : Int), (cs[j] : Int))] d != false) = _
  by_cases h : cs[j] = d
  · rw [decide_eq_true h, h]
    simp [memS]
  · rw [decide_eq_false h]
    simp only [memS, List.any_cons, List.any_nil, Bool.or_false, bne_eq_false_iff_eq, Bool.and_eq_false_iff, decide_eq_false_iff_not]
    omega
theorem loop_none {P : List Stp} {x : ByteArray} {nt : Bool} (n a : Nat) (s : FS) : loopF P x nt n a [] s = s := by
  cases n with
  | zero => rw [loopF]
  | succ n => rw [loopF, if_neg (by simp)]
theorem loop_q {cs : List Nat} {x : ByteArray} {nt : Bool} : ∀ (ds : List Nat) (n a j : Nat) (l : List (Nat × Nat)) (s : FS), a ≤ x.size → x.data.toList.drop a = txB ds → (∀ d ∈ ds, ChF d) → ds.length < n → j < cs.length → s.fnd = none → s.lat = [] → s.met.length = cs.length + 1 → (∀ i, j < i → i ≤ cs.length → s.met[i]? = some 0) →
    (loopF (cs.map takT ++ [.yes]) x nt n a [(j, l)] s).fnd.isSome = decide (ds = cs.drop j)
  | _, 0, _, _, _, _, _, _, _, hn, _, _, _, _, _ => absurd hn (by omega)
  | [], n + 1, a, j, l, s, ha, h, _, _, hj, hf, _, _, _ => by
    have hl := congrArg List.length h
    rw [List.length_drop, ← Lib.size_eq] at hl
    have hl : x.size - a = 0 := hl
    rw [loopF, if_neg (by omega), hf, decide_eq_false (fun e => by
      have := congrArg List.length e
      rw [List.length_drop] at this
      simp at this
      omega)]
    rfl
  | d :: t, n + 1, a, j, l, s, ha, h, hd, hn, hj, hf, hlat, hlen, hmet => by
    have h1 := hd d (by simp)
    have h' : x.data.toList.drop a = chB d ++ txB t := h
    have hl := congrArg List.length h'
    rw [List.length_drop, ← Lib.size_eq, List.length_append] at hl
    have hp := h1.pos
    have hch : charR x a = (d, (chB d).length) := by
      rw [charR_drop (by omega), h']
      exact h1.dec _
    have hdr : x.data.toList.drop (a + (chB d).length) = txB t := by
      rw [← List.drop_drop, h']
      simp
    have hcd : cs.drop j = cs[j] :: cs.drop (j + 1) := List.drop_eq_getElem_cons hj
    rw [loopF, if_pos ⟨by omega, by simp⟩, hch]
    have hsw : sweepF (cs.map takT ++ [.yes]) x.size (a + (chB d).length) nt d [(j, l)] { s with wait := [] } = if takesS (cs.map takT ++ [Stp.yes]) j d = true then folF (cs.map takT ++ [.yes]) x.size (a + (chB d).length) nt (3 * (cs.map takT ++ [Stp.yes]).length + 3) none ⟨s.met, [(j + 1, l)], [], s.fnd⟩ else { s with wait := [] } := by
      rw [sweepF]
      split
      · rw [sweepF]
      · rw [sweepF]
    show (loopF _ x nt n (a + (chB d).length) (sweepF (cs.map takT ++ [.yes]) x.size (a + (chB d).length) nt d [(j, l)] { s with wait := [] }).wait (sweepF (cs.map takT ++ [.yes]) x.size (a + (chB d).length) nt d [(j, l)] { s with wait := [] })).fnd.isSome = _
    rw [hsw, takes_tak hj]
    by_cases hc : cs[j] = d
    · rw [if_pos (decide_eq_true hc), hcd, hc]
      have heq : decide (d :: t = d :: cs.drop (j + 1)) = decide (t = cs.drop (j + 1)) := by
        by_cases h9 : t = cs.drop (j + 1)
        · rw [decide_eq_true h9, decide_eq_true (by rw [h9])]
        · rw [decide_eq_false h9, decide_eq_false (fun e => h9 (by injection e))]
      rw [heq]
      have hm : s.met[j + 1]? ≠ some (a + (chB d).length + 1) := by
        rw [hmet (j + 1) (by omega) (by omega)]
        intro e
        injection e with e
        omega
      by_cases hj2 : j + 1 < cs.length
      · rw [show 3 * (cs.map takT ++ [Stp.yes]).length + 3 = (3 * (cs.map takT ++ [Stp.yes]).length + 1) + 2 from rfl, fol_tak hj2 hm]
        refine loop_q t n (a + (chB d).length) (j + 1) l ⟨s.met.set (j + 1) (a + (chB d).length + 1), [], [] ++ [(j + 1, l)], s.fnd⟩ (by omega) hdr (fun y hy => hd y (by simp [hy])) (by simp at hn; omega) hj2 hf rfl (by simpa using hlen) (fun i hi1 hi2 => ?_)
        show (s.met.set (j + 1) _)[i]? = _
        rw [List.getElem?_set_ne (by omega)]
        exact hmet i (by omega) hi2
      · have hj3 : j + 1 = cs.length := by omega
        rw [hj3] at hm ⊢
        rw [show 3 * (cs.map takT ++ [Stp.yes]).length + 3 = (3 * (cs.map takT ++ [Stp.yes]).length + 1) + 2 from rfl, fol_yes hm]
        show (loopF _ x nt n _ [] _).fnd.isSome = _
        rw [loop_none]
        show (if a + (chB d).length < x.size then s.fnd else some l).isSome = _
        rw [hf, List.drop_length]
        cases t with
        | nil =>
          have hz : (txB []).length = 0 := rfl
          rw [if_neg (by omega)]
          rfl
        | cons e u =>
          have he := (hd e (by simp)).pos
          have hz : (txB (e :: u)).length = (chB e).length + (txB u).length := by
            show (chB e ++ txB u).length = _
            rw [List.length_append]
          rw [if_pos (by omega)]
          rfl
    · rw [if_neg (by rw [decide_eq_false hc]; decide)]
      show (loopF _ x nt n _ [] _).fnd.isSome = _
      rw [loop_none, hcd, decide_eq_false (fun e => hc (by injection e with e1 e2; exact e1.symm))]
      show s.fnd.isSome = false
      rw [hf]
      rfl
/-- A row of characters means the text of just these characters. -/
theorem run_q {cs ds : List Nat} {x : ByteArray} (nt : Bool) (h : x.data.toList = txB ds) (hd : ∀ d ∈ ds, ChF d) : (runF (progR (.row (cs.map takN))) x nt).isSome = decide (ds = cs) := by
  have hl : ds.length ≤ x.size := by
    rw [Lib.size_eq, h]
    clear h
    induction ds with
    | nil => exact Nat.zero_le _
    | cons e u ih =>
      have he := (hd e (by simp)).pos
      have := ih (fun y hy => hd y (by simp [hy]))
      show _ ≤ (chB e ++ txB u).length
      rw [List.length_append, List.length_cons]
      omega
  rw [quote_prog]
  unfold runF
  cases hcs : cs with
  | nil =>
    have h0 : folF (([] : List Nat).map takT ++ [.yes]) x.size 0 nt (3 * (([] : List Nat).map takT ++ [Stp.yes]).length + 3) none ⟨List.replicate (([] : List Nat).map takT ++ [Stp.yes]).length 0, [(0, [])], [], none⟩ = ⟨[1], [], [], if 0 < x.size then none else some []⟩ := fol_yes (cs := []) (by simp)
    rw [h0]
    show (loopF _ x nt (x.size + 1) 0 [] _).fnd.isSome = _
    rw [loop_none]
    show (if 0 < x.size then none else some ([] : List (Nat × Nat))).isSome = _
    by_cases hz : 0 < x.size
    · rw [if_pos hz, decide_eq_false (fun e => by
        rw [e] at h
        have := congrArg List.length h
        rw [← Lib.size_eq] at this
        have : x.size = 0 := this
        omega)]
      rfl
    · rw [if_neg hz, decide_eq_true (by
        cases ds with
        | nil => rfl
        | cons e u => simp at hl; omega)]
      rfl
  | cons c u =>
    have h0 : folF ((c :: u).map takT ++ [.yes]) x.size 0 nt (3 * ((c :: u).map takT ++ [Stp.yes]).length + 3) none ⟨List.replicate ((c :: u).map takT ++ [Stp.yes]).length 0, [(0, [])], [], none⟩ = ⟨(List.replicate ((c :: u).map takT ++ [Stp.yes]).length 0).set 0 (0 + 1), [], [] ++ [(0, [])], none⟩ := fol_tak (cs := c :: u) (by simp) (by simp)
    rw [h0]
    have := loop_q (cs := c :: u) (x := x) (nt := nt) ds (x.size + 1) 0 0 [] ⟨(List.replicate ((c :: u).map takT ++ [Stp.yes]).length 0).set 0 (0 + 1), [], [] ++ [(0, [])], none⟩ (Nat.zero_le _) h hd (by omega) (by simp) rfl rfl (by simp) (fun i h1 h2 => by
      rw [List.getElem?_set_ne (by omega), List.getElem?_replicate_of_lt (by simp at h2 ⊢; omega)])
    rw [List.drop_zero] at this
    exact this
/-- A quoted text means itself alone. -/
theorem quote_means {cs : List Nat} {s x : ByteArray} (nt : Bool) (hcs : ∀ c ∈ cs, ChF c) (hs : s.data.toList = txB cs) (hx : Lib.validD x.data.toList = true) : (runF (progR (.row (cs.map takN))) x nt).isSome = decide (x = s) := by
  obtain ⟨ds, h1, h2⟩ := chars_of _ _ (Nat.le_refl _) hx
  rw [run_q nt h1 h2]
  by_cases h : ds = cs
  · have : x = s := ByteArray.ext (Array.toList_inj.1 (by rw [h1, hs, h]))
    rw [decide_eq_true h, decide_eq_true this]
  · have : x ≠ s := fun e => h (txB_inj h2 hcs (by rw [← h1, ← hs, e]))
    rw [decide_eq_false h, decide_eq_false this]
end Go.Proofs.YtmbkcmfcdjccoaaDoor

/- Writing into a strings.Builder at this program. -/
namespace Go.Proofs
open Go.Shelf
def Tryd.bws_ren : Go.Shelf.Ren := ⟨fun | 166 => 21 | 240 => 31 | 276 => 43 | n => n, fun | 20 => 20 | 37 => 37 | 70 => 47 | 72 => 49 | 75 => 51 | 80 => 56 | 164 => 98 | n => n, fun | n => n⟩
theorem Tryd.bws : Go.Proofs.Lays.n166 Tryd.prog Tryd.bws_ren := {
  mixed := by kernel_rfl
  f166 := Tryd.func21.trans (congrArg some (by kernel_rfl))
  f240 := Tryd.func31.trans (congrArg some (by kernel_rfl))
  f276 := Tryd.func43.trans (congrArg some (by kernel_rfl))
  t0 := Tryd.underlying0
  a0 := Tryd.isAgg0
  z0 := Tryd.sizeOf0
  v0 := Tryd.zeroValue0
  t3 := Tryd.underlying3
  a3 := Tryd.isAgg3
  z3 := Tryd.sizeOf3
  v3 := Tryd.zeroValue3
  t4 := Tryd.underlying4
  a4 := Tryd.isAgg4
  z4 := Tryd.sizeOf4
  v4 := Tryd.zeroValue4
  t9 := Tryd.underlying9
  a9 := Tryd.isAgg9
  z9 := Tryd.sizeOf9
  v9 := Tryd.zeroValue9
  t20 := Tryd.underlying20
  a20 := Tryd.isAgg20
  z20 := Tryd.sizeOf20
  v20 := Tryd.zeroValue20
  t37 := Tryd.underlying37
  a37 := Tryd.isAgg37
  z37 := Tryd.sizeOf37
  v37 := Tryd.zeroValue37
  t70 := Tryd.underlying47
  a70 := Tryd.isAgg47
  z70 := Tryd.sizeOf47
  v70 := Tryd.zeroValue47
  t72 := Tryd.underlying49
  a72 := Tryd.isAgg49
  z72 := Tryd.sizeOf49
  v72 := Tryd.zeroValue49
  t75 := Tryd.underlying51
  a75 := Tryd.isAgg51
  z75 := Tryd.sizeOf51
  v75 := Tryd.zeroValue51
  t164 := Tryd.underlying98
  a164 := Tryd.isAgg98
  z164 := Tryd.sizeOf98
  v164 := Tryd.zeroValue98 }
theorem Tryd.bws_x : Builder.Extra Tryd.prog Tryd.bws_ren := {
  sizeBuilder := by kernel_rfl
  liesBuilder := by kernel_rfl
  t5 := Tryd.underlying5
  a5 := Tryd.isAgg5
  z5 := Tryd.sizeOf5
  v5 := Tryd.zeroValue5
  infoByte := by kernel_rfl
  cellsByte := by kernel_rfl
  sizeByte := by kernel_rfl
  neB5 := by decide }
def Tryd.bwb_ren : Go.Shelf.Ren := ⟨fun | 167 => 23 | 240 => 31 | 276 => 43 | n => n, fun | 20 => 20 | 37 => 37 | 70 => 47 | 72 => 49 | 75 => 51 | 80 => 56 | 164 => 98 | n => n, fun | n => n⟩
theorem Tryd.bwb : Go.Proofs.Lays.n167 Tryd.prog Tryd.bwb_ren := {
  mixed := by kernel_rfl
  f167 := Tryd.func23.trans (congrArg some (by kernel_rfl))
  f240 := Tryd.func31.trans (congrArg some (by kernel_rfl))
  f276 := Tryd.func43.trans (congrArg some (by kernel_rfl))
  t0 := Tryd.underlying0
  a0 := Tryd.isAgg0
  z0 := Tryd.sizeOf0
  v0 := Tryd.zeroValue0
  t4 := Tryd.underlying4
  a4 := Tryd.isAgg4
  z4 := Tryd.sizeOf4
  v4 := Tryd.zeroValue4
  t5 := Tryd.underlying5
  a5 := Tryd.isAgg5
  z5 := Tryd.sizeOf5
  v5 := Tryd.zeroValue5
  t9 := Tryd.underlying9
  a9 := Tryd.isAgg9
  z9 := Tryd.sizeOf9
  v9 := Tryd.zeroValue9
  t20 := Tryd.underlying20
  a20 := Tryd.isAgg20
  z20 := Tryd.sizeOf20
  v20 := Tryd.zeroValue20
  t37 := Tryd.underlying37
  a37 := Tryd.isAgg37
  z37 := Tryd.sizeOf37
  v37 := Tryd.zeroValue37
  t70 := Tryd.underlying47
  a70 := Tryd.isAgg47
  z70 := Tryd.sizeOf47
  v70 := Tryd.zeroValue47
  t72 := Tryd.underlying49
  a72 := Tryd.isAgg49
  z72 := Tryd.sizeOf49
  v72 := Tryd.zeroValue49
  t75 := Tryd.underlying51
  a75 := Tryd.isAgg51
  z75 := Tryd.sizeOf51
  v75 := Tryd.zeroValue51
  t164 := Tryd.underlying98
  a164 := Tryd.isAgg98
  z164 := Tryd.sizeOf98
  v164 := Tryd.zeroValue98 }
theorem Tryd.bwb_x : Builder.Extra Tryd.prog Tryd.bwb_ren := {
  sizeBuilder := by kernel_rfl
  liesBuilder := by kernel_rfl
  t5 := Tryd.underlying5
  a5 := Tryd.isAgg5
  z5 := Tryd.sizeOf5
  v5 := Tryd.zeroValue5
  infoByte := by kernel_rfl
  cellsByte := by kernel_rfl
  sizeByte := by kernel_rfl
  neB5 := by decide }
end Go.Proofs
