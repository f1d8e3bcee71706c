/- For every labels and every matchers LabelsMatch returns true and leaves its arguments as they were: a matcher of equality means just the sets that the document says. No condition; utf8's two tables as the program's text lays them (tied). -/
import Derived.Test.YtcpoknmachphnaaDoorCards
import Derived.Test.YtcpoknmachphnaaDoorTie
import Derived.Test.YtcpoknmachphnaaDoorLo
import Derived.Deep.DeepHandedRow
import Derived.Deep.DeepWitnessRowRef
import Derived.SizedLaws
namespace Go.Proofs.YtcpoknmachphnaaDoor
open Go.ChangeShapes Go.WideShapes Go.ChangeAt Go.RowKit
open Go.Deep (open_slice choose_lt)

theorem cellsMt : Tryd.prog.cellsOf 52 = 3 := by kernel_rfl
section
variable {H : Type} {enc : TypeId × Value → H} {w : World}

set_option maxRecDepth 100000 in
theorem matcher_came {n : Nat} {cs : List Value} {b o : Nat} {x : DataW H × List MemPlace} (hlen : cs.length = 3) (hcell : ∀ i, i < 3 → w.cell? ⟨b, o + i, none⟩ = cs[i]?) (h : DataW.trod enc Tryd.prog w 0 (fun _ => true) true n 52 cs = some x) : ∃ m : Int × ByteArray × ByteArray, w.cell? ⟨b, o, none⟩ = some (.int .i64 m.1) ∧ w.cell? ⟨b, o + 1, none⟩ = some (.string m.2.1) ∧ w.cell? ⟨b, o + 2, none⟩ = some (.string m.2.2) := by
  obtain ⟨xs, m, _, _, _, hl, hf⟩ := DataW.trod_struct Tryd.underlying52 h
  match cs, hlen with
  | [v0, v1, v2], _ =>
    match xs, hl with
    | [y0, y1, y2], _ =>
      have t0 := hf 0 _ rfl
      have t1 := hf 1 _ rfl
      have t2 := hf 2 _ rfl
      simp [cells9, cells3] at t0 t1 t2
      obtain ⟨s0, e0, _, _⟩ := DataW.trod_int Tryd.underlying3 t0
      obtain ⟨s1, e1, _, _⟩ := DataW.trod_string Tryd.underlying9 t1
      obtain ⟨s2, e2, _, _⟩ := DataW.trod_string Tryd.underlying9 t2
      simp at e0 e1 e2
      subst e0 e1 e2
      exact ⟨(s0, s1, s2), hcell 0 (by omega), hcell 1 (by omega), hcell 2 (by omega)⟩

set_option maxRecDepth 100000 in
theorem mats_came {a : Option Addr} {len cap : Nat} {d : DataW H} {p : List MemPlace} (h : DataW.Trod enc Tryd.prog w 0 (fun _ => true) true 49 (.slice a len cap) d p) :
    ∃ ms : List Mt, MatsAt w (.slice a len cap) ms := by
  obtain ⟨fuel, hf⟩ := h
  rcases open_slice Tryd.underlying49 hf with ⟨hcs, _⟩ | ⟨x, l, c, m, n, D, Pl, hcs, _, hl, hm, hmm, _, hel⟩
  · simp [Value.cells] at hcs
    obtain ⟨rfl, rfl, rfl⟩ := hcs
    exact ⟨[], none, 0, rfl, ⟨Nat.zero_le _, Nat.zero_le _⟩, fun k hk => absurd hk (Nat.not_lt_zero _)⟩
  · simp [Value.cells] at hcs
    obtain ⟨rfl, rfl, rfl⟩ := hcs
    simp at hmm
    obtain ⟨b, o, spot⟩ := x
    have hsp : 0 < len → spot = none := fun h0 => by
      obtain ⟨cs, hc, _⟩ := hel 0 (by omega)
      obtain ⟨_, hlen, hcell⟩ := World.cells?_some hc
      rw [cellsMt] at hlen hcell
      have h1 := hcell 0 (by omega)
      have e : ((⟨b, o, spot⟩ : Addr).add (0 * 3)).add 0 = ⟨b, o, spot⟩ := by simp [Addr.add]
      rw [e, List.getElem?_eq_getElem (by omega)] at h1
      exact World.cell?_spot h1
    have key : ∀ i, i < len → ∃ m : Int × ByteArray × ByteArray, w.cell? ⟨b, o + i * 3, none⟩ = some (.int .i64 m.1) ∧ w.cell? ⟨b, o + i * 3 + 1, none⟩ = some (.string m.2.1) ∧ w.cell? ⟨b, o + i * 3 + 2, none⟩ = some (.string m.2.2) := fun i hi => by
      have hs := hsp (by omega)
      subst hs
      obtain ⟨cs, hc, ht⟩ := hel i (by omega)
      obtain ⟨_, hlen, hcell⟩ := World.cells?_some hc
      rw [cellsMt] at hlen hcell
      refine matcher_came hlen (fun j hj => ?_) ht
      have := hcell j hj
      rw [add_plain, add_plain] at this
      exact this
    obtain ⟨f, hf'⟩ := choose_lt key
    have hfl : ((List.range len).map fun i => (⟨(f i).1, (f i).2.1, (f i).2.2⟩ : Mt)).length = len := by simp
    refine ⟨(List.range len).map fun i => (⟨(f i).1, (f i).2.1, (f i).2.2⟩ : Mt), some ⟨b, o, spot⟩, cap, by rw [hfl], ⟨by omega, hm⟩, fun k hk => ?_⟩
    have hk' : k < len := by omega
    obtain ⟨h1, h2, h3⟩ := hf' k hk'
    have e : ((List.range len).map fun i => (⟨(f i).1, (f i).2.1, (f i).2.2⟩ : Mt))[k] = ⟨(f k).1, (f k).2.1, (f k).2.2⟩ := by simp
    rw [e, hsp (by omega)]
    exact ⟨b, o, rfl, World.block_lt_of_cell? w _ h1, h1, h2, h3⟩
end

theorem match_met (os : Os) : laidMet Tryd.prog Rows.labelsMatchRow.laid (((laidW (World.holding Tryd.prog os ⟨#[], #[], []⟩))).forCall (fun _ _ => 0) ⟨#[], #[.slice none 0 0, .slice none 0 0], []⟩).memory :=
  laidMet_of_run' 8 (by kernel_rfl) (by kernel_rfl)
theorem match_reads (os : Os) {H : Type} (enc : TypeId × Value → H) : ∃ places, DataW.whole enc Tryd.prog (((laidW (World.holding Tryd.prog os ⟨#[], #[], []⟩))).forCall (fun _ _ => 0) ⟨#[], #[.slice none 0 0, .slice none 0 0], []⟩).memory Tryd.f8.params.toList Rows.labelsMatchSpec.vars false #[Value.slice none 0 0, Value.slice none 0 0].toList 8 = some ([.nil, .nil], [], places) :=
  ⟨[], by kernel_rfl⟩

set_option maxRecDepth 100000 in
theorem match_contract (H : Type) (enc : TypeId × Value → H) (W : World) (base : Nat) (args : Array Value) (ds gs : List (DataW H)) (before : List MemPlace)
    (hval0 : ∀ (j : Nat) t v, Tryd.f8.params[j]? = some t → args[j]? = some v → Value.okWide Tryd.prog W .any base t v)
    (hW : DataW.Whole enc Tryd.prog Tryd.f8.params.toList Rows.labelsMatchSpec.vars false W args.toList ds gs before) (hL : laidMetH Tryd.prog Rows.labelsMatchRow.laid W) :
    Calls Tryd.prog 8 args W fun e W' => ∃ v, e = .returned v ∧ Rows.labelsMatchSpec.post enc Tryd.prog Tryd.f8 false true false false W args v W' := by
  have hval := hval0
  have hW' := hW
  obtain ⟨p, q, hA0, hV, rfl, _, _⟩ := hW
  have hA : DataW.TrodAll enc Tryd.prog W 0 (fun _ => true) true Tryd.f8.params.toList args.toList ds p := hA0
  rw [Tryd.params8] at hA hval
  obtain ⟨v0, vs0, d0, ds0, p0, q0, hargs0, rfl, rfl, h0, r0⟩ := trodAll_cons hA
  obtain ⟨v1, vs1, d1, ds1, p1, q1, hargs1, rfl, rfl, h1, r1⟩ := trodAll_cons r0
  obtain ⟨rfl, rfl, rfl⟩ := trodAll_nil r1
  obtain rfl : args = #[v0, v1] := by cases args; simp_all
  obtain ⟨rfl, rfl⟩ := trodVars_none hV
  obtain ⟨a0, len0, cap0, rfl⟩ := okWide_slice Tryd.underlying22 (hval 0 22 v0 rfl rfl)
  obtain ⟨a1, len1, cap1, rfl⟩ := okWide_slice Tryd.underlying49 (hval 1 49 v1 rfl rfl)
  clear hA0 hval0
  simp only [List.append_nil] at hW'
  obtain ⟨ls, hls, hsz⟩ := labs_came h0
  obtain ⟨ms, hms⟩ := mats_came h1
  have hlt0 : ∀ x ∈ p0, x.block < W.heap.size := fun x hx => by simpa using hW'.lt x (by simp [hx])
  have hlt1 : ∀ x ∈ p1, x.block < W.heap.size := fun x hx => by simpa using hW'.lt x (by simp [hx])
  refine (match_any _ _ ls ms W hls hsz hms (tabs_of hL)).mono ?_
  rintro e W' ⟨rfl, hnx⟩
  have t0 := Below.trod laidOut (by kernel_rfl) (of_decide_eq_true (by kernel_rfl)) h0 hnx hlt0
  have t1 := Below.trod laidOut (by kernel_rfl) (of_decide_eq_true (by kernel_rfl)) h1 hnx hlt1
  refine ⟨_, rfl, _, _, _, [], p0 ++ (p1 ++ []), [], hW', ?_, ?_, rfl, hnx.frame _, fun h => by cases h⟩
  · exact trodAll_mk1 (shut_bool Tryd.underlying4 true)
  · exact trodAll_cons_mk t0 (trodAll_cons_mk t1 trodAll_mk0)

set_option maxRecDepth 100000 in
theorem match_lifted (os : Os) (started : os.Started) (H : Type) (enc : TypeId × Value → H) (F : Stop.Interp) :
    ReturnsInHanded {} Tryd.checked os 8 .any ((OpenSpec.ofChange Rows.labelsMatchSpec).preRow enc Tryd.prog Tryd.f8 Rows.labelsMatchRow.domain false Rows.labelsMatchRow.laid) (((OpenSpec.ofChange Rows.labelsMatchSpec).at F).post enc Tryd.prog Tryd.f8 false true false false) := by
  obtain ⟨places, hx⟩ := match_reads os enc
  refine returnsInHanded_of_row (C := Tryd.checked) (s := OpenSpec.ofChange Rows.labelsMatchSpec) own started (by kernel_rfl) Tryd.func8
    (witness_row_atRef (enc := enc) (C := Tryd.checked) false (laidW (World.holding Tryd.prog os ⟨#[], #[], []⟩)) #[.slice none 0 0, .slice none 0 0] rfl (by kernel_rfl) (by kernel_rfl) (by kernel_rfl)
      (OpenSpec.preRow_of_cond 8 hx (by kernel_rfl) (fun k hk => by cases hk) (by kernel_rfl) (match_met os))) ?_
  intro W base args ds gs before hval hW _ _ _ hL _ _
  exact match_contract H enc W base args ds gs before hval hW hL

theorem match_said : Rows.LabelsMatchSaid :=
  OpenClaim.holds_of_cond 8 Tryd.f8 rfl rfl rfl rfl rfl rfl rfl ⟨rfl, rfl, rfl, rfl, rfl⟩ rfl rfl rfl rfl rfl (by kernel_rfl) Tryd.func8 (by kernel_rfl)
    (of_decide_eq_true (by kernel_rfl)) (by unfold Func.isWrapper; first | (rw [if_pos (by decide +kernel)]; kernel_rfl) | (rw [if_neg (by decide +kernel)]; exact ⟨rfl, rfl⟩))
    (fun os started H enc _ F => by rw [OpenClaim.pre_eq_preRow]; exact match_lifted os started H enc F)

theorem match_plain (f : FuncId) (fn : Func) (hf : Tryd.pinned.checked.prog.funcNamed Rows.labelsMatchRow.func = some f) (hfn : Tryd.pinned.checked.prog.funcs[f]? = some fn) :
    false = Tryd.pinned.checked.prog.looks [] ∧ ∀ (j : Nat) t, fn.params[j]? = some t → Tryd.pinned.checked.prog.wantsStandIn t = false := by
  obtain rfl : f = 8 := Option.some.inj ((show Tryd.prog.funcNamed Rows.labelsMatchRow.func = some 8 by kernel_rfl).symm.trans hf) |>.symm
  obtain rfl : fn = Tryd.f8 := (Option.some.inj (Tryd.func8.symm.trans hfn)).symm
  refine ⟨by kernel_rfl, fun j t ht => ?_⟩
  rw [Tryd.params8] at ht
  have hm : t ∈ [22, 49] := by simpa using Array.mem_of_getElem? ht
  have hall : ([22, 49].all fun u => !Tryd.prog.wantsStandIn u) = true := by kernel_rfl
  exact (show Tryd.prog.wantsStandIn t = false by simpa using List.all_eq_true.1 hall t hm)

theorem labelsMatch_card : Rows.LabelsMatchCardSaid :=
  Claim7.holds_tied_plain_at .later [] _ _ _ _ match_said (fun _ h => by cases h) (by kernel_rfl) (fun _ h => by cases h) labelsMatch_row_tie rfl ⟨rfl, rfl⟩ (by kernel_rfl) rfl match_plain (by kernel_rfl)

end Go.Proofs.YtcpoknmachphnaaDoor
