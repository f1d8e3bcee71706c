/- What a crash leaves. -/
import Derived.Test.YtihoccaaecmcfaaWa
namespace Go.Proofs.Ytihoccaaecmcfaa
open Go.RowKit Go.Maps Go.Sort
open Go.WideMaps Go.WideElems

/-- A file's slice, its bytes, and how many of them are durable. -/
structure FileV where
  v : Value
  bs : List UInt8
  dur : Nat

structure Files (w : World) (d : Nat) (s : St) (L : List Nat) (fs : Nat → FileV) : Prop where
  at_ : ∀ f ∈ L, FileAt w f (fs f).v (fs f).bs (fs f).dur
  le : ∀ f ∈ L, (fs f).dur ≤ (fs f).bs.length
  rows : ∀ f ∈ L, ∀ g ∈ L, f ≠ g → ∀ k, (fs f).v.ownBlock = some k → (fs g).v.ownBlock ≠ some k
  own : ∀ f ∈ L, ∀ k, (fs f).v.ownBlock = some k → ¬ s.own d k

def cutV (v : Value) (k : Nat) : Value := match v with
  | .slice a _ c => .slice a k c
  | v => v
def FileV.cut (x : FileV) (k : Nat) : FileV := ⟨cutV x.v k, x.bs.take k, k⟩

theorem ownBlock_cutV (v : Value) (k : Nat) : (cutV v k).ownBlock = v.ownBlock := by
  cases v <;> try rfl
  rename_i a n c
  cases a <;> rfl

theorem ownsRow_cut {w : World} {base : Nat} {e : TypeId} {v : Value} {n : Nat} {xs : List Value} (h : w.ownsRow base e 1 v n xs) {k : Nat} (hk : k ≤ n) : w.ownsRow base e 1 (cutV v k) k (xs.take k) := by
  refine ⟨by rw [List.length_take, h.1]; omega, ?_⟩
  rcases h.2 with ⟨rfl, h0⟩ | ⟨g, cap, cur, rfl, hg, hh, h1, h2, h3, h4⟩
  · have : k = 0 := by omega
    subst this
    exact Or.inl ⟨rfl, rfl⟩
  · refine Or.inr ⟨g, cap, cur, rfl, hg, hh, by omega, h2, h3, ?_⟩
    rw [← h4, List.take_take]
    congr 1
    omega

theorem byteVals_take (l : List UInt8) (k : Nat) : byteVals (l.take k) = (byteVals l).take k := by simp [byteVals, List.map_take]

/-- The file that a name names. -/
def fileOf (D : DataW Unit) (x : List UInt8) : Nat := match D.atKey (.string x) .nil with
  | .lit (.int _ b) => b.toNat
  | _ => 0

def FileV.crash (x : FileV) (cs : List Int) (k : Nat) : FileV := x.cut (x.dur + cutN cs (k + 1) (x.bs.length - x.dur))

/-- The files, when the first k names have been gone through. -/
def crashTo (D : DataW Unit) (cs : List Int) (ts : List (List UInt8)) (fs : Nat → FileV) : Nat → Nat → FileV
  | 0 => fs
  | k + 1 => fun f => if f = fileOf D (ts.getD k []) then (crashTo D cs ts fs k f).crash cs k else crashTo D cs ts fs k f
/-- How many bytes they have. -/
def usedTo (D : DataW Unit) (cs : List Int) (ts : List (List UInt8)) (fs : Nat → FileV) : Nat → Int
  | 0 => 0
  | k + 1 => usedTo D cs ts fs k + (crashTo D cs ts fs (k + 1) (fileOf D (ts.getD k []))).dur

theorem crash_le {x : FileV} (h : x.dur ≤ x.bs.length) (cs : List Int) (k : Nat) : (x.crash cs k).dur ≤ x.bs.length ∧ (x.crash cs k).dur ≤ (x.crash cs k).bs.length := by
  have := cutN_le cs (k + 1) (x.bs.length - x.dur)
  simp only [FileV.crash, FileV.cut, List.length_take]
  omega

/-- A map is emptied. -/
theorem ownsMap_clear {H : Type} {w : World} {t k e : TypeId} {R : Value → Option (DataW H × List MemPlace)} {b n : Nat} {D : DataW H} (h : w.ownsMap Try.prog k R b n D) (ht : Try.prog.underlying t = some (.map k e)) (ty : TypeId) :
    ∃ w', (Builtin.clear_ #[t] ty #[.map (some b)]).run Try.prog w = .ok (.tuple #[]) w' ∧ w'.ownsMap Try.prog k R b n (.map []) ∧ w.mapTurned w' b := by
  obtain ⟨es, clock, hb, F, hs, rfl⟩ := h
  refine ⟨ChangeMaps.setBlock w b (.map #[] clock), ?_, ⟨#[], clock, ChangeMaps.heap_setBlock_same hb _, ⟨by simp, MapKept.stamped_empty clock, by simp⟩, by simp, rfl⟩, ⟨es, clock, #[], clock, hb, rfl⟩⟩
  simp [Builtin.clear_, run_underlying ht, MapKept.run_getObj_map hb, MapKept.run_setObj_map _ hb, Result.andThen, ChangeMaps.setBlock]

theorem wpList_clear_own {H : Type} (w : World) {ops : Array Oper} {rest : List Oper} {o : Oper} {a : Act} {Q : Exit → Act → World → Prop} (hg : o.guard = none) (m : Operand) (t : TypeId) (hop : o.op = Op.call { callee := Callee.builtin Builtin.clear, args := #[m], argTypes := #[t] })
    (k e : TypeId) (ht : Try.prog.underlying t = some (.map k e)) (R : Value → Option (DataW H × List MemPlace)) (b n : Nat) (D : DataW H) (hm : a.eval m = .map (some b)) (hown : w.ownsMap Try.prog k R b n D)
    (hK : ∀ w', w'.ownsMap Try.prog k R b n (.map []) → w.mapTurned w' b → wpList Try.prog ops Q rest (a.put o.dst (.tuple #[])) w') : wpList Try.prog ops Q (o :: rest) a w := by
  refine wpList_plain hg fun K' hK' => ?_
  obtain ⟨w', hrun, r1, r2⟩ := ownsMap_clear hown ht o.type
  unfold Oper.wp
  simp [execOp, hop, resolve, invoke, builtin, hm, hrun, Result.andThen]
  exact hK' _ _ (hK w' r1 r2)

/-- One file is cut, in the memory. -/
theorem Files.cut {w : World} {d : Nat} {s : St} {L : List Nat} {fs : Nat → FileV} (h : Files w d s L fs) {w' : World} {s' : St} {f k : Nat} (hf : f ∈ L) (hk : k ≤ (fs f).bs.length) (hd : ∀ g ∈ L, g ≠ d)
    (hown : ∀ i, s'.own d i → s.own d i) (hkept : Kept (fun i => i = d ∨ i = f) w w') (hat : w'.heap[f]? = some (.cells #[cutV (fs f).v k, .int .i64 k] 81)) (hrd : ∀ g ∈ L, (fs g).v.ownBlock ≠ some d) (hrf : ∀ g ∈ L, (fs g).v.ownBlock ≠ some f) :
    Files w' d s' L (fun g => if g = f then (fs g).cut k else fs g) := by
  refine ⟨fun g hg => ?_, fun g hg => ?_, fun g hg g' hg' hne i hi => ?_, fun g hg i hi hi' => ?_⟩
  · by_cases e : g = f
    · subst e
      simp only [if_pos]
      refine ⟨hat, ?_⟩
      have r := hkept.ownsRow (h.at_ g hg).row (fun i hi e => e.elim (fun e => hrd g hg (e ▸ hi)) (fun e => hrf g hg (e ▸ hi)))
      have r2 := ownsRow_cut r hk
      simp only [FileV.cut, byteVals_take]
      rw [List.length_take, Nat.min_eq_left hk]
      exact r2
    · simp only [if_neg e]
      exact (h.at_ g hg).kept hkept (fun e' => e'.elim (hd g hg) e) (fun i hi e' => e'.elim (fun e => hrd g hg (e ▸ hi)) (fun e => hrf g hg (e ▸ hi)))
  · by_cases e : g = f
    · subst e
      simp only [if_pos, FileV.cut, List.length_take]
      omega
    · simp only [if_neg e]
      exact h.le g hg
  · have e1 : (if g = f then (fs g).cut k else fs g).v.ownBlock = (fs g).v.ownBlock := by split <;> simp [FileV.cut, ownBlock_cutV]
    have e2 : (if g' = f then (fs g').cut k else fs g').v.ownBlock = (fs g').v.ownBlock := by split <;> simp [FileV.cut, ownBlock_cutV]
    rw [e1] at hi
    rw [e2]
    exact h.rows g hg g' hg' hne i hi
  · have e1 : (if g = f then (fs g).cut k else fs g).v.ownBlock = (fs g).v.ownBlock := by split <;> simp [FileV.cut, ownBlock_cutV]
    rw [e1] at hi
    exact h.own g hg i hi (hown i hi')

end Go.Proofs.Ytihoccaaecmcfaa
