/- The document's Crash. -/
import Derived.Test.YtipakfdebccchaaMF3
import Derived.StillTailTactics
import Derived.Deep.RegionHeld3
namespace Go.Proofs.Ytipakfdebccchaa
open Go.RowKit Go.Maps Go.Sort

theorem rcCells_at (l : List (Int × ByteArray × ByteArray × Int)) (k : Nat) (hk : k < l.length) : (rcCells l)[k * 4]? = some (.int .i64 l[k].1) ∧ (rcCells l)[k * 4 + 1]? = some (.string l[k].2.1) ∧ (rcCells l)[k * 4 + 2]? = some (.string l[k].2.2.1) ∧ (rcCells l)[k * 4 + 3]? = some (.int .i64 l[k].2.2.2) := by
  have h := fun j hj => flat_at rcCell 4 (fun _ => rfl) l k hk j hj
  exact ⟨h 0 (by omega), h 1 (by omega), h 2 (by omega), h 3 (by omega)⟩
theorem IsRef.change {w : World} {r : Nat} {s : RSt} (h : IsRef w r s) {k g c : Nat} (hk : k < s.pend.length) (hg : s.pv = .slice (some ⟨g, 0, none⟩) s.pend.length c) :
    w.cell? ⟨g, k * 4, none⟩ = some (.int .i64 s.pend[k].1) ∧ w.cell? ⟨g, k * 4 + 1, none⟩ = some (.string s.pend[k].2.1) ∧ w.cell? ⟨g, k * 4 + 2, none⟩ = some (.string s.pend[k].2.2.1) ∧ w.cell? ⟨g, k * 4 + 3, none⟩ = some (.int .i64 s.pend[k].2.2.2) := by
  obtain ⟨h0, h1, h2, h3⟩ := rcCells_at s.pend k hk
  have hc := fun j u hj => h.rP.cells (g := g) (by rw [hg]; rfl) j u hj
  have c0 := hc _ _ h0
  have c1 := hc _ _ h1
  have c2 := hc _ _ h2
  have c3 := hc _ _ h3
  rw [Addr.add_lit, Nat.zero_add] at c0 c1 c2 c3
  exact ⟨c0, c1, c2, c3⟩

theorem foldL_take (l : List (ByteArray × Int)) (ps : List (Int × ByteArray × ByteArray × Int)) (k : Nat) (hk : k < ps.length) : foldL l (ps.take (k + 1)) = chL (foldL l (ps.take k)) ps[k] := by
  unfold foldL
  rw [List.take_succ_eq_append_getElem hk, List.foldl_append]
  rfl

theorem info3 : (Try.prog.info? 3).map (fun i => (i.zero, i.size, i.bytes)) = some (some (.int .i64 0), 1, 8) := by kernel_rfl
/-- A file that was taken out of the list. -/
def X2 (B : Nat) (v : Value) (kp : Int) (w : World) : Prop := w.heap[B]? = some (.cells #[v, .int .i64 kp] 93)
theorem X2.all {B : Nat} {v : Value} {kp : Int} {w : World} (h : X2 B v kp w) : w.cell? ⟨B, 0, none⟩ = some v ∧ w.cell? ⟨B, 1, none⟩ = some (.int .i64 kp) ∧ X2 B v kp w :=
  ⟨by rw [cell_of_heap h]; rfl, by rw [cell_of_heap h]; rfl, h⟩
/-- A change that was taken out of the list. -/
def P4 (B : Nat) (old nm : ByteArray) (fl : Int) (w : World) : Prop := w.heap[B]? = some (.cells #[.int .i64 2, .string old, .string nm, .int .i64 fl] 85)
theorem P4.all {B : Nat} {old nm : ByteArray} {fl : Int} {w : World} (h : P4 B old nm fl w) : w.cell? ⟨B, 1, none⟩ = some (.string old) ∧ w.cell? ⟨B, 2, none⟩ = some (.string nm) ∧ w.cell? ⟨B, 3, none⟩ = some (.int .i64 fl) ∧ P4 B old nm fl w :=
  ⟨by rw [cell_of_heap h]; rfl, by rw [cell_of_heap h]; rfl, by rw [cell_of_heap h]; rfl, h⟩
theorem P4.below {B : Nat} {old nm : ByteArray} {fl : Int} {w w' : World} (h : P4 B old nm fl w) (hb : Below w.heap.size w w') : P4 B old nm fl w' := (hb.block B (Array.getElem?_eq_some_iff.1 h).1).trans h

set_option maxRecDepth 100000 in
set_option maxHeartbeats 4000000 in
theorem refCrash_any {w : World} {r base k c : Nat} {a : RA} (h : RefIs w r base a) (hi : Inv k c a) (hk : k ≤ 1000) (_hc : c ≤ 1000) (cv : Value) (cs : List Int) (hcv : IntsAt w cv cs) (hlow : ∀ b, cv.ownBlock = some b → cs ≠ [] → b < base) :
    Calls Try.prog 22 #[.pointer (some ⟨r, 0, none⟩), cv] w fun e w' => e = .returned (.tuple #[]) ∧ RefIs w' r base (a.crash cs) ∧ KT (refS base) w w' := by
  obtain ⟨s, hI, hsb, hsa⟩ := h
  subst hsa
  have hnp : s.pend.length ≤ 1000 := by have := hi.np; have h2 : s.abs.pend.length = s.pend.length := rfl; omega
  have hbr := hI.room
  rw [hsb] at hbr
  obtain ⟨ca, cc, rfl, _⟩ := id hcv
  have HN1 : Hid (NextAt (w.alloc (.cells #[.slice ca cs.length cc] 82)) w.heap.size base cs 0) := ⟨hbr, _, heap_alloc_new w _, hcv.kept ((Kept.refl (fun _ => False) w).alloc _) (fun _ _ _ e => e), hlow⟩
  have HI1 : Hid (IsRef (w.alloc (.cells #[.slice ca cs.length cc] 82)) r s) := hI.below ((Below.refl _ w).alloc (Nat.le_refl _) _)
  have HK : Hid (∀ W, Kept (fun k => k = w.heap.size) (w.alloc (.cells #[.slice ca cs.length cc] 82)) W → IsRef W r s ∧ KT (refS base) w W) := fun W hK => by
    refine ⟨HI1.out.kept hK (fun e => by have := hI.at_.lt; omega) (fun b t ht ⟨cs', fr, e1⟩ e2 => ?_), ?_⟩
    · subst e2
      rw [heap_alloc_new] at e1
      simp at e1
      obtain ⟨_, e3, _⟩ := e1
      subst e3
      simp at ht
    · exact KT.of (O := fun _ => False) (((Kept.refl (fun _ => False) w).alloc _).trans hK (fun i hi e => by omega)) (fun _ _ e => e.elim)
  obtain ⟨pa, pc, hpv⟩ := slice_of_row hI.rP
  have HPV : Hid (s.pv = .slice pa s.pend.length pc) := hpv
  have hcel := HI1.out.at_.cells
  rw [hpv] at hcel
  obtain ⟨c0, c1, c2, c3, c4, c5, c6, c7, cf⟩ := hcel
  have HTD : Hid (∀ j, j ≤ s.pend.length → TidyD s.abs.files.length (foldL s.kept (s.pend.take j))) := hi.tidy
  have HOK : Hid (∀ p, p ∈ s.pend → OkP s.abs.files.length p) := hi.okp
  have hnf : s.abs.files.length ≤ 1000 := by have := hi.nf; omega
  have HIV : Hid (Inv k c s.abs) := hi
  obtain ⟨n, hn⟩ : ∃ n, n = cutN cs 0 s.pend.length := ⟨_, rfl⟩
  have hnl : n ≤ s.pend.length := by rw [hn]; exact cutN_le _ _ _
  have HCN : Hid (n = cutN cs 0 s.pend.length) := hn
  have hnx := refNext_any HN1.out s.pend.length (by omega)
  rw [← hn] at hnx
  rename_i hcvr
  clear hlow hcv hi hcvr hpv hn
  go_enter Try.func22, Try.ntmps22
  go_wp2_with (first
    | (go_at_call 43; refine hnx.mono ?_; rintro e W1 ⟨rfl, hN1, hK1⟩; obtain ⟨hI1, hT1⟩ := HK.out _ hK1; obtain ⟨e0, e1, e2, e3, e4, e5, e6, e7, ef⟩ := hI1.at_.cells; clear c0 c1 c2 c3 c4 c5 c6 c7 cf HN1 HI1 HK hK1 hnx))
  have hW1 : base ≤ W1.heap.size := Nat.le_trans hbr hT1.size
  have HSB : Hid (s.base = base) := hsb
  have hkr := hI1.rK
  rw [hsb] at hkr
  have HT1 : Hid (KT (refS base) w W1) := hT1
  have HN1 : Hid (NextAt W1 w.heap.size base cs 1) := hN1
  have HR1 : Hid (IsRef W1 r s) := hI1
  clear e0 e1 e2 e3 e4 e5 e6 e7 ef hsb hT1 hN1
  go_loopw [6, 7] (fun v i wr => ∃ j : Nat, j ≤ n ∧ i = .int .i64 j ∧ wr.ownsRow base 90 2 v (foldL s.kept (s.pend.take j)).length (entCells (foldL s.kept (s.pend.take j))) ∧ Below W1.heap.size W1 wr) (fun _ i _ => n - (intOf i).toNat)
  case atStart => exact ⟨0, Nat.zero_le _, rfl, hkr, Below.refl _ _⟩
  case round =>
    obtain ⟨j, hj, rfl, hrow, hbel⟩ := hrel
    by_cases hlt : j < n
    · have hjl : j < s.pend.length := by omega
      have hIr := HR1.out.below hbel
      obtain ⟨pg, pgc, hpg⟩ := row_some hIr.rP (by omega)
      obtain ⟨q0, q1, q2, q3⟩ := hIr.change hjl hpg
      have q4 := hIr.at_.cells.2.2.2.2.1
      rw [hpg] at q4
      have hok := HOK.out _ (List.getElem_mem hjl)
      have htl := (HTD.out j (by omega)).len
      have HF : Hid (foldL s.kept (s.pend.take (j + 1)) = chL (foldL s.kept (s.pend.take j)) s.pend[j]) := foldL_take _ _ j hjl
      have hul := unsetL_length (foldL s.kept (s.pend.take j))
      obtain ⟨x, hx⟩ : ∃ x, x = s.pend[j] := ⟨_, rfl⟩
      rw [← hx] at q0 q1 q2 q3 hok HF
      have hjp : (j : Int) < (s.pend.length : Int) := by omega
      have hsz := hbel.size
      clear hx hpg hIr
      obtain ⟨kd, old, nm, fl⟩ := x
      have hkd := hok.kind
      have HUL : Hid (∀ name, (unsetL (foldL s.kept (s.pend.take j)) name).length ≤ (foldL s.kept (s.pend.take j)).length) := hul
      clear hok hul
      generalize foldL s.kept (s.pend.take j) = dk at *
      obtain ⟨va, vc, rfl⟩ := slice_of_row hrow
      have HB : Hid (∀ o, Below W1.heap.size W1 (wr.alloc o)) := fun o => hbel.alloc hsz o
      simp only at hkd q0 q1 q2 q3
      rcases hkd with rfl | rfl | rfl
      · have HF1 : Hid (foldL s.kept (s.pend.take (j + 1)) = setL dk nm fl) := HF.out
        clear HF
        go_wp2_with (go_at_call 44; refine (refSet_any _ dk nm fl _ _ (hrow.alloc _) (by omega)).mono ?_; rintro e w3 ⟨v3, rfl, hr3, hb3⟩)
        go_roundw
        case rel =>
          have hb4 := HB.out (.cells #[.int .i64 1, .string old, .string nm, .int .i64 fl] 85)
          refine ⟨j + 1, by omega, by go_num, ?_, below_to hb4 hb3 hb4.size⟩
          rw [HF1.out]
          exact row_base hr3 (by have := hb4.size; omega)
        case measure => simp [intOf]; omega
      · have HF1 : Hid (foldL s.kept (s.pend.take (j + 1)) = setL (unsetL dk old) nm fl) := HF.out
        have hul := HUL.out old
        clear HF HUL
        go_wp2_with fail
        refine goOn (S := fun W => P4 wr.heap.size old nm fl W ∧ Below W1.heap.size W1 W ∧ W.ownsRow base 90 2 (.slice va dk.length vc) dk.length (entCells dk)) ⟨heap_alloc_new wr _, HB.out _, hrow.alloc _⟩ ?_
        rintro W ⟨hP, hbW, hrW⟩
        obtain ⟨p1, p2, p3, _⟩ := hP.all
        clear q0 q1 q2 q3 q4 hrow HB
        have hrD : W.drew.ownsRow base 90 2 (.slice va dk.length vc) dk.length (entCells dk) := hrW.drew
        have HPD : Hid (∀ w', Below W.drew.heap.size W.drew w' → P4 wr.heap.size old nm fl w') := fun w' hb => P4.below (w := W.drew) hP hb
        have HBD : Hid (∀ w' w'', Below W.drew.heap.size W.drew w' → Below w'.heap.size w' w'' → Below W1.heap.size W1 w'' ∧ base ≤ w'.heap.size) := fun w' w'' h1 h2 => by
          have h3 : Below W1.heap.size W1 W.drew := hbW.drew
          have h4 := below_to h3 h1 h3.size
          exact ⟨below_to h4 h2 h4.size, by have := h4.size; omega⟩
        go_region_held3 (fun w' => w'.cell? ⟨wr.heap.size, 1, none⟩ = some (.string old) ∧ w'.cell? ⟨wr.heap.size, 2, none⟩ = some (.string nm) ∧ w'.cell? ⟨wr.heap.size, 3, none⟩ = some (.int .i64 fl) ∧ P4 wr.heap.size old nm fl w')
          (first | (refine P4.all ?_; exact hP) | (refine P4.all ?_; assumption))
          (first
            | (go_at_call 45; refine (refUnset_any _ dk old _ _ hrD (by omega)).mono ?_; rintro e w3 ⟨v3, rfl, hr3, hb3⟩; have hP3 := HPD.out _ hb3)
            | (go_at_call 44; refine (refSet_any _ (unsetL dk old) nm fl _ _ hr3 (by omega)).mono ?_; rintro e w4 ⟨v4, rfl, hr4, hb4⟩; have hP4 := P4.below hP3 hb4))
        all_goals
          go_wp2
          go_roundw
          case rel =>
            obtain ⟨f1, f2⟩ := HBD.out _ _ hb3 hb4
            refine ⟨j + 1, by omega, by go_num, ?_, f1⟩
            rw [HF1.out]
            exact row_base hr4 f2
          case measure => simp [intOf]; omega
      · have HF1 : Hid (foldL s.kept (s.pend.take (j + 1)) = unsetL dk nm) := HF.out
        clear HF
        go_wp2_with (go_at_call 45; refine (refUnset_any _ dk nm _ _ (hrow.alloc _) (by omega)).mono ?_; rintro e w3 ⟨v3, rfl, hr3, hb3⟩)
        go_roundw
        case rel =>
          have hb4 := HB.out (.cells #[.int .i64 3, .string old, .string nm, .int .i64 fl] 85)
          refine ⟨j + 1, by omega, by go_num, ?_, below_to hb4 hb3 hb4.size⟩
          rw [HF1.out]
          exact row_base hr3 (by have := hb4.size; omega)
        case measure => simp [intOf]; omega
    · have ej : j = n := by omega
      subst ej
      have HTJ := HTD.out j hnl
      have HTJ' : Hid (TidyD s.abs.files.length (foldL s.kept (s.pend.take j))) := HTJ
      have hdl := HTJ.len
      have HNM : Hid (∀ e, e ∈ foldL s.kept (s.pend.take j) → e.1.size ≤ 64) := fun e he => (rn_size (HTJ.right e he)).2
      have HCD : Hid (s.abs.crashDir cs = foldL s.kept (s.pend.take j)) := by show _ = _; rw [HCN.out]; rfl
      clear HTJ HTD HOK hkr hlt HCN
      generalize foldL s.kept (s.pend.take j) = dir at *
      obtain ⟨da, dc, rfl⟩ := slice_of_row hrow
      have HCW : Hid (∀ W nv, Below wr.heap.size wr W → W.ownsRow wr.heap.size 9 1 nv (namesL dir []).length ((namesL dir []).map encStr) → CrashW w W r w.heap.size base s.abs cs (namesL dir []) dir nv (.slice da dir.length dc) (.slice none 0 0) s.abs.files 1 []) := fun W nv hb hr => by
        have hb1 : Below W1.heap.size W1 W := below_to hbel hb hbel.size
        refine ⟨⟨s, HR1.out.below hb1, HSB.out, rfl⟩, HN1.out.kept ((Kept.refl (fun _ => False) W1).below hb1) id (fun _ _ => id), row_base hr (by have := hbel.size; omega), row_still hrow hb, World.ownsRow_nil _ _ _ _, HT1.out.trans (KT.below hb1), Nat.le_refl _, hbr⟩
      have HSO : Hid (Calls Try.prog 46 #[.slice da dir.length dc, .string ⟨#[]⟩] wr fun e w' => ∃ v, e = .returned v ∧ w'.ownsRow wr.heap.size 9 1 v (namesL dir []).length ((namesL dir []).map encStr) ∧ Below wr.heap.size wr w') := refSorted_any _ dir ⟨#[]⟩ _ _ hrow (by omega) (by show 0 ≤ maxLen; exact Nat.zero_le _) HNM.out
      go_wp2_with (go_at_call 46; refine HSO.out.mono ?_; clear HSO; rintro e W2 ⟨nv, rfl, hrn, hb2⟩; have hC := HCW.out W2 nv hb2 hrn; obtain ⟨na, nc, rfl⟩ := slice_of_row hrn)
      have HLK : Hid (∀ i (hi : i < (namesL dir []).length), ∃ m : Nat, lookD dir (namesL dir [])[i] = some (m : Int) ∧ m < s.abs.files.length) := fun i hi => namesL_look HTJ'.out (List.getElem_mem hi)
      have HDN : Hid (∀ i t m, (hi : i < (namesL dir []).length) → t < i → lookD dir (namesL dir [])[i] = some ((m : Nat) : Int) → ∃ f : Int, (doneL dir (namesL dir []) i)[t]? = some f ∧ f ≠ (m : Int)) := fun i t m hi ht hm => doneL_ne HTJ'.out hi ht hm
      have HFL : Hid (∀ i x, x ∈ crashF dir cs (namesL dir []) s.abs.files i → x.1.length ≤ 200 * k ∧ 0 ≤ x.2 ∧ x.2 ≤ x.1.length) := crashF_len dir cs _ _ HIV.out.len
      have HCR : Hid (s.abs.crash cs = { s.abs with files := crashF dir cs (namesL dir []) s.abs.files (namesL dir []).length, dir := dir, kept := dir, pend := [], faults := [], stop := -1 }) := by show _ = _; unfold RA.crash; rw [HCD.out]
      have hnl2 : (namesL dir []).length ≤ 1000 := by rw [(namesL_perm dir).length_eq, List.length_map]; omega
      clear HCW HNM HCD HTJ' hrow hrn hb2 HIV HR1 HN1 HT1 hI1 hI HSB hbel HPV hj hnl
      generalize namesL dir [] = nms at *
      generalize w.heap.size = q at *
      go_loopw [10, 11] (fun dn i wx => ∃ jj : Nat, jj ≤ nms.length ∧ i = .int .i64 jj ∧ Hid (CrashW w wx r q base s.abs cs nms dir (.slice na nms.length nc) (.slice da dir.length dc) dn (crashF dir cs nms s.abs.files jj) (jj + 1) (doneL dir nms jj))) (fun _ i _ => nms.length - (intOf i).toNat)
      case atStart => exact ⟨0, Nat.zero_le _, rfl, hC⟩
      case round =>
        obtain ⟨jj, hjj, rfl, HC⟩ := hrel
        clear hC
        have hdl := doneL_length dir nms jj hjj
        obtain ⟨dna, dnc, hdn⟩ := slice_of_row HC.out.dn
        rw [hdl] at hdn
        subst hdn
        have HDL : Hid ((doneL dir nms jj).length = jj) := hdl
        clear hdl
        by_cases hlt : jj < nms.length
        · obtain ⟨m, hm1, hm2⟩ := HLK.out jj hlt
          obtain ⟨sk, hIk, hbk, hak⟩ := HC.out.ref
          have hfl : sk.files.map Prod.snd = crashF dir cs nms s.abs.files jj := congrArg RA.files hak
          have hml : m < sk.files.length := by
            have e1 := congrArg List.length hfl
            rw [List.length_map, crashF_length] at e1
            omega
          obtain ⟨xv, bs, kpI, hx⟩ : ∃ xv bs kpI, sk.files[m] = (xv, bs, kpI) := ⟨_, _, _, rfl⟩
          have hfm : (crashF dir cs nms s.abs.files jj)[m]? = some (bs, kpI) := by
            rw [← hfl, List.getElem?_map, List.getElem?_eq_getElem hml, hx]
            rfl
          have hfb := HFL.out jj _ (List.mem_of_getElem? hfm)
          obtain ⟨kp, rfl⟩ : ∃ kp : Nat, kpI = (kp : Int) := ⟨kpI.toNat, by have := hfb.2.1; simp only at this; omega⟩
          have hkb : kp ≤ bs.length := by have := hfb.2.2; simp only at this; omega
          have hbl : bs.length ≤ 200000 := by have := hfb.1; simp only at this; omega
          have hsf : sk.files.length ≤ 1000 := by
            have e1 := congrArg List.length hfl
            rw [List.length_map, crashF_length] at e1
            omega
          obtain ⟨gf, gfc, hgf⟩ := row_some hIk.rF (by omega)
          obtain ⟨y0, y1⟩ := hIk.file hml hgf
          have hby := (hIk.bytes _ (List.getElem_mem hml)).at_
          rw [hx] at y0 y1 hby
          obtain ⟨xa, xc, hxv, hxc1, hxc2⟩ := hby.shape
          simp only at hxv y0 y1
          subst hxv
          have y2 := hIk.at_.cells.2.1
          rw [hgf] at y2
          have HS := crashF_succ dir cs nms s.abs.files hlt hm1 hfm
          obtain ⟨xb, hx1, hx2⟩ : ∃ xb : ByteArray, encStr nms[jj] = .string xb ∧ xb.data.toList = nms[jj] := ⟨⟨nms[jj].toArray⟩, rfl, by simp⟩
          have hlk : lookD dir xb.data.toList = some (m : Int) := by rw [hx2]; exact hm1
          obtain ⟨i0, hi0, hi1, hi2⟩ := look_at hlk
          obtain ⟨gd, gdc, hgd⟩ := row_some HC.out.dr (by omega)
          have z0 := HC.out.dr.cells (g := gd) (by rw [hgd]; rfl) _ _ (entCells_at dir i0 hi0).2
          rw [Addr.add_lit, Nat.zero_add, hi1] at z0
          obtain ⟨gn, gnc, hgn⟩ := row_some HC.out.nm (by omega)
          have n0 := HC.out.nm.cells (g := gn) (by rw [hgn]; rfl) jj (encStr nms[jj]) (by simp [hlt])
          rw [Addr.add_lit, Nat.zero_add, hx1] at n0
          have hDr := HC.out.dr
          cases hgd
          cases hgn
          have hjn : (jj : Int) < (nms.length : Int) := by omega
          have hid : (i0 : Int) < (dir.length : Int) := by omega
          have hmf : (m : Int) < (sk.files.length : Int) := by omega
          have HI0 : Hid (∀ i, Stands dir xb i → i = i0) := hi2
          have HDJ : Hid (∀ t, t < jj → ∃ f : Int, (doneL dir nms jj)[t]? = some f ∧ f ≠ (m : Int)) := fun t ht => HDN.out jj t m hlt ht hm1
          have HDM : Hid (doneL dir nms (jj + 1) = doneL dir nms jj ++ [(m : Int)]) := by show _ = _; rw [doneL_succ dir nms jj hlt, hm1]; rfl
          have HAK : Hid (sk.abs = { s.abs with files := crashF dir cs nms s.abs.files jj }) := hak
          have HBK : Hid (sk.base = base) := hbk
          clear hi2 hfb hak hby hfm hm1 hlk hx1 hx2
          have hnq : ((bs.length - kp : Nat) : Int) + 1 = (bs.length : Int) - (kp : Int) + 1 := by omega
          have harg : IntKind.i64.wrap (IntKind.i64.wrap ((bs.length : Int) - (kp : Int)) + 1) = ((bs.length - kp : Nat) : Int) + 1 := by rw [i64_wrap (n := (bs.length : Int) - (kp : Int)) (by omega), i64_wrap (by omega)]; omega
          obtain ⟨ct, hct⟩ : ∃ ct, ct = cutN cs (jj + 1) (bs.length - kp) := ⟨_, rfl⟩
          have hctl : ct ≤ bs.length - kp := by rw [hct]; exact cutN_le _ _ _
          rw [← hct] at HS
          have HNX : Hid (∀ W, NextAt W q base cs (jj + 1) → Calls Try.prog 43 #[.pointer (some ⟨q, 0, none⟩), .int .i64 (IntKind.i64.wrap (IntKind.i64.wrap ((bs.length : Int) - (kp : Int)) + 1))] W fun e w' => e = .returned (.int .i64 ct) ∧ NextAt w' q base cs (jj + 1 + 1) ∧ Kept (fun k => k = q) W w') := fun W hW => by
            rw [harg, hct]
            exact refNext_any hW (bs.length - kp) (by omega)
          have HSS : Hid (crashF dir cs nms s.abs.files (jj + 1) = (crashF dir cs nms s.abs.files jj).set m (bs.take (kp + ct), ((kp + ct : Nat) : Int))) := HS
          obtain ⟨nN, hnN⟩ : ∃ nN, nN = kp + ct := ⟨_, rfl⟩
          rw [← hnN] at HSS
          have hnb : nN ≤ bs.length := by omega
          have HFIN : Hid (∀ W, IsRef W r sk → RefIs ((W.setCell ⟨gf, m * 2, none⟩ (.slice xa nN nN)).setCell ⟨gf, m * 2 + 1, none⟩ (.int .i64 nN)) r base { s.abs with files := crashF dir cs nms s.abs.files (jj + 1) } ∧ KT (refS base) W ((W.setCell ⟨gf, m * 2, none⟩ (.slice xa nN nN)).setCell ⟨gf, m * 2 + 1, none⟩ (.int .i64 nN))) := fun W hW => by
            have h1 := hW.cutAt hml hgf (k := nN) (by rw [hx]; exact hnb)
            have e1 : capV sk.files[m].1 nN = .slice xa nN nN := by rw [hx]; rfl
            have e2 : sk.files[m].2.1 = bs := by rw [hx]
            rw [e1, e2] at h1
            obtain ⟨h2, h3⟩ := h1
            rw [HBK.out] at h3
            refine ⟨⟨_, h2, HBK.out, ?_⟩, h3⟩
            have e3 := HAK.out
            have e4 : (sk.files.set m (.slice xa nN nN, bs.take nN, (nN : Int))).map Prod.snd = crashF dir cs nms s.abs.files (jj + 1) := by
              rw [List.map_set, HSS.out]
              have e5 : sk.files.map Prod.snd = crashF dir cs nms s.abs.files jj := congrArg RA.files e3
              rw [e5]
            have e6 : ({ sk with files := sk.files.set m (.slice xa nN nN, bs.take nN, (nN : Int)) } : RSt).abs = { sk.abs with files := (sk.files.set m (.slice xa nN nN, bs.take nN, (nN : Int))).map Prod.snd } := rfl
            rw [e6, e4, e3]
          clear hnq harg hct HS hfl hbk
          go_wp2_with (go_at_call 47; refine (refAt_any _ dir xb _ _ hDr (by omega)).mono ?_; rintro e w2 ⟨⟨i, rfl, hi⟩, rfl⟩; have hi3 := HI0.out _ hi; clear hi; subst hi3)
          have hqB : q ≠ w2.heap.size := by
            obtain ⟨_, sv, hq, _⟩ := HC.out.nx
            have := (Array.getElem?_eq_some_iff.1 hq).1
            omega
          refine goOn (S := fun W => X2 w2.heap.size (.slice xa bs.length xc) kp W ∧ Hid (CrashW w W r q base s.abs cs nms dir (.slice (some ⟨gn, 0, none⟩) nms.length nc) (.slice (some ⟨gd, 0, none⟩) dir.length dc) (.slice dna jj dnc) (crashF dir cs nms s.abs.files jj) (jj + 1) (doneL dir nms jj)) ∧ IsRef W r sk) ⟨heap_alloc_new w2 _, HC.out.below ((Below.refl _ w2).alloc (Nat.le_refl _) _), hIk.below ((Below.refl _ w2).alloc (Nat.le_refl _) _)⟩ ?_
          clear HC hIk y0 y1 y2 z0 n0 hDr
          rintro W ⟨hX, HC, hIk⟩
          have HNW : Hid (NextAt W.drew q base cs (jj + 1)) := HC.out.nx.kept ((Kept.refl (fun _ => False) W).drew) id (fun _ _ => id)
          have HXK : Hid (∀ w', Kept (fun k => k = q) W.drew w' → X2 w2.heap.size (.slice xa bs.length xc) kp w') := fun w' hk => hk.heap (w := W.drew) hX (fun e => hqB e.symm)
          obtain ⟨x0, x1, _⟩ := hX.all
          go_region_held3 (fun w' => w'.cell? ⟨w2.heap.size, 0, none⟩ = some (.slice xa bs.length xc) ∧ w'.cell? ⟨w2.heap.size, 1, none⟩ = some (.int .i64 kp) ∧ X2 w2.heap.size (.slice xa bs.length xc) kp w')
            (first | (refine X2.all ?_; exact hX) | (refine X2.all ?_; assumption))
            (first
              | (go_at_call 43; refine (HNX.out _ HNW.out).mono ?_; rintro e w3 ⟨rfl, hN3, hK3⟩; have hX3 := HXK.out _ hK3))
          all_goals
            refine goOn (S := fun W3 => X2 w2.heap.size (.slice xa bs.length xc) kp W3 ∧ Hid (CrashW w W3 r q base s.abs cs nms dir (.slice (some ⟨gn, 0, none⟩) nms.length nc) (.slice (some ⟨gd, 0, none⟩) dir.length dc) (.slice dna jj dnc) (crashF dir cs nms s.abs.files jj) (jj + 1 + 1) (doneL dir nms jj)) ∧ IsRef W3 r sk) ⟨hX3, (HC.out.below (wr' := W.drew) (Below.refl _ W).drew).next hK3 hN3, (hIk.below (w' := W.drew) (Below.refl _ W).drew).nextK HNW.out hK3⟩ ?_
            clear HC hIk x0 x1 hX HXK hX3 hK3 hN3 HNW
            rintro W3 ⟨hX, HC, hIk⟩
            have hwr : IntKind.i64.wrap ((kp : Int) + (ct : Int)) = (nN : Int) := by rw [i64_wrap (by omega)]; omega
            rw [hwr]
            clear hwr
            have HQ : Hid (nN = kp + ct) := hnN
            clear hnN
            go_wp2_with fail
            go_loop [15, 16] (fun b i => ∃ t : Nat, t ≤ jj ∧ b = .bool false ∧ i = .int .i64 t) (fun _ i => jj - (intOf i).toNat)
            case atStart => exact ⟨0, Nat.zero_le _, rfl, rfl⟩
            case round =>
              obtain ⟨t, ht, rfl, rfl⟩ := hrel
              by_cases htl : t < jj
              · obtain ⟨f, hf1, hf2⟩ := HDJ.out t htl
                have hdl := HDL.out
                obtain ⟨gdn, gdnc, hgdn⟩ := row_some HC.out.dn (by omega)
                have d0 := HC.out.dn.cells (g := gdn) (by rw [hgdn]; rfl) t (.int .i64 f) (by rw [List.getElem?_map, hf1]; rfl)
                rw [Addr.add_lit, Nat.zero_add] at d0
                have e9 : dna = some ⟨gdn, 0, none⟩ := by simp at hgdn; exact hgdn.1
                subst e9
                have hf3 : (f == (m : Int)) = false := beq_eq_false_iff_ne.2 hf2
                have hf4 : decide (f = (m : Int)) = false := decide_eq_false hf2
                have htj : (t : Int) < (jj : Int) := by omega
                clear hgdn hdl hf1
                go_wp2
                go_round
                case rel => exact ⟨t + 1, by omega, rfl, by go_num⟩
                case measure => simp [intOf]; omega
              · have et : t = jj := by omega
                subst et
                have y2 := hIk.at_.cells.2.1
                rw [hgf] at y2
                obtain ⟨x0, x1, _⟩ := hX.all
                obtain ⟨y0, y1⟩ := hIk.file hml hgf
                rw [hx] at y0 y1
                simp only at y0 y1
                have hfz : ∀ i, W3.frozen? ⟨gf, i, none⟩ = false := fun i => row_frozen hIk.rF (k := gf) (by rw [hgf]; rfl) i
                have hkc : nN ≤ xc := by omega
                have hkc' : (nN : Int) ≤ (xc : Int) := by omega
                have hxm : (xc : Int) ≤ 9223372036854775807 := by unfold maxLen at hxc2; omega
                have hb9 := (hIk.bytes _ (List.getElem_mem hml)).at_
                rw [hx] at hb9
                have HNO : Hid (xa = none → bs.length = 0 ∧ xc = 0) := fun e => by
                  subst e
                  rcases hb9 with ⟨e1, e2⟩ | ⟨ad, c9, e1, _⟩
                  · simp at e1 e2
                    exact ⟨by rw [e2]; rfl, e1.2⟩
                  · simp at e1
                clear hb9
                have HRM : Hid (∀ W', KT (refS base) W3.drew W' → w.heap.size ≤ W'.heap.size) := fun W' hk => Nat.le_trans HC.out.kt.size (Nat.le_trans (show W3.heap.size ≤ W3.drew.heap.size from Nat.le_refl _) hk.size)
                obtain ⟨i3, hi3, hz3, hs3, hb3⟩ := info_parts info3
                have HTW : Hid (∀ W', RefIs W' r base { s.abs with files := crashF dir cs nms s.abs.files (t + 1) } → KT (refS base) W3.drew W' → Hid (CrashW w W' r q base s.abs cs nms dir (.slice (some ⟨gn, 0, none⟩) nms.length nc) (.slice (some ⟨gd, 0, none⟩) dir.length dc) (.slice dna t dnc) (crashF dir cs nms s.abs.files (t + 1)) (t + 1 + 1) (doneL dir nms t)) ∧ w.heap.size ≤ W'.heap.size ∧ W'.ownsRow w.heap.size 3 1 (.slice dna t dnc) t ((doneL dir nms t).map fun x => Value.int .i64 x)) := fun W' hr hk => by
                  have h1 := (HC.out.below (wr' := W3.drew) (Below.refl _ W3).drew).turn hk hr
                  have h2 := h1.dn
                  rw [HDL.out] at h2
                  exact ⟨h1, HRM.out _ hk, h2⟩
                have HID : Hid (IsRef W3.drew r sk) := hIk.below (w' := W3.drew) (Below.refl _ W3).drew
                cases xa with
                | none =>
                  obtain ⟨e1, e2⟩ := HNO.out rfl
                  have e3 : nN = 0 := by omega
                  have e4 : bs = [] := List.eq_nil_of_length_eq_zero e1
                  subst e3 e4 e2
                  go_wp2_with fail
                  refine wp_region_still_tail 13 (by kernel_rfl) (by kernel_rfl) ?_
                  simp only [List.take_succ_cons, List.take_zero, List.drop_succ_cons, List.drop_zero]
                  iterate 13 still_step
                  refine wpStill_nil ?_
                  go_upto_region 28 with (fail)
                  have hFI := HFIN.out _ HID.out
                  obtain ⟨HC4, hs4, hd4⟩ := HTW.out _ hFI.1 hFI.2
                  refine goOn (S := fun W4 => Hid (CrashW w W4 r q base s.abs cs nms dir (.slice (some ⟨gn, 0, none⟩) nms.length nc) (.slice (some ⟨gd, 0, none⟩) dir.length dc) (.slice dna t dnc) (crashF dir cs nms s.abs.files (t + 1)) (t + 1 + 1) (doneL dir nms t)) ∧ w.heap.size ≤ W4.heap.size ∧ W4.ownsRow w.heap.size 3 1 (.slice dna t dnc) t ((doneL dir nms t).map fun x => Value.int .i64 x)) ⟨HC4, hs4, hd4⟩ ?_
                  clear HC4 hs4 hd4 hFI HC hX hIk HTW HRM HID HFIN x0 x1 y0 y1 y2 hfz
                  rintro W4 ⟨HC, hs4, hd4⟩
                  go_wp2_with (at_builtin; refine wpList_append_own_at _ rfl _ _ 32 rfl w.heap.size 3 i3 _ 1 8 Try.underlying32 hi3 hz3 hs3 hb3 rfl (by decide) _ t _ rfl (hd4.alloc _) ⟨W4.heap.size, 0, none⟩ 1 1 [.int .i64 m] rfl rfl (World.news_of_block (cs := #[.int .i64 m]) (t := 3) (fr := (0, 0)) (heap_alloc_new W4 _)) (by simp [Value.oneCell']) (by unfold maxLen; omega) (by omega) (by simp; omega) ?_; intro v5 w5 hown5 hgrow5 hnil5 hloc5)
                  go_roundw
                  case rel =>
                    refine ⟨t + 1, by omega, by go_num, ?_⟩
                    have h9 := HC.out.more hgrow5 (x := (m : Int)) (by rw [HDL.out]; exact hown5)
                    rw [← HDM.out] at h9
                    exact h9
                  case measure => simp [intOf]; omega
                | some ad =>
                  go_wp2_with fail
                  refine wp_region_still_tail 13 (by kernel_rfl) (by kernel_rfl) ?_
                  simp only [List.take_succ_cons, List.take_zero, List.drop_succ_cons, List.drop_zero]
                  iterate 13 still_step
                  refine wpStill_nil ?_
                  go_upto_region 28 with (fail)
                  have hFI := HFIN.out _ HID.out
                  obtain ⟨HC4, hs4, hd4⟩ := HTW.out _ hFI.1 hFI.2
                  refine goOn (S := fun W4 => Hid (CrashW w W4 r q base s.abs cs nms dir (.slice (some ⟨gn, 0, none⟩) nms.length nc) (.slice (some ⟨gd, 0, none⟩) dir.length dc) (.slice dna t dnc) (crashF dir cs nms s.abs.files (t + 1)) (t + 1 + 1) (doneL dir nms t)) ∧ w.heap.size ≤ W4.heap.size ∧ W4.ownsRow w.heap.size 3 1 (.slice dna t dnc) t ((doneL dir nms t).map fun x => Value.int .i64 x)) ⟨HC4, hs4, hd4⟩ ?_
                  clear HC4 hs4 hd4 hFI HC hX hIk HTW HRM HID HFIN x0 x1 y0 y1 y2 hfz
                  rintro W4 ⟨HC, hs4, hd4⟩
                  go_wp2_with (at_builtin; refine wpList_append_own_at _ rfl _ _ 32 rfl w.heap.size 3 i3 _ 1 8 Try.underlying32 hi3 hz3 hs3 hb3 rfl (by decide) _ t _ rfl (hd4.alloc _) ⟨W4.heap.size, 0, none⟩ 1 1 [.int .i64 m] rfl rfl (World.news_of_block (cs := #[.int .i64 m]) (t := 3) (fr := (0, 0)) (heap_alloc_new W4 _)) (by simp [Value.oneCell']) (by unfold maxLen; omega) (by omega) (by simp; omega) ?_; intro v5 w5 hown5 hgrow5 hnil5 hloc5)
                  go_roundw
                  case rel =>
                    refine ⟨t + 1, by omega, by go_num, ?_⟩
                    have h9 := HC.out.more hgrow5 (x := (m : Int)) (by rw [HDL.out]; exact hown5)
                    rw [← HDM.out] at h9
                    exact h9
                  case measure => simp [intOf]; omega
        · have ejj : jj = nms.length := by omega
          subst ejj
          obtain ⟨sk, hIk, hbk, hak⟩ := HC.out.ref
          have hDr := HC.out.dr
          have HKT : Hid (KT (refS base) w wr) := HC.out.kt
          have HAK : Hid (sk.abs = { s.abs with files := crashF dir cs nms s.abs.files nms.length }) := hak
          have HBK : Hid (sk.base = base) := hbk
          have hrm : sk.base ≤ wr.heap.size := hIk.room
          have HD1 : Hid (∀ v w2, w2.ownsRow wr.heap.size 90 2 v dir.length (entCells dir) → (wr.alloc (.cells #[] 90)).grownBy w2 (Value.slice (some ⟨wr.heap.size, 0, none⟩) 0 0).ownBlock → (IsRef (w2.setCell ⟨r, 2, none⟩ v) r { sk with dv := v, dir := dir } ∧ KT (refS base) wr (w2.setCell ⟨r, 2, none⟩ v) ∧ (w2.setCell ⟨r, 2, none⟩ v).ownsRow base 90 2 (.slice da dir.length dc) dir.length (entCells dir)) ∧ RefAt w2 r sk.cap sk.fv sk.dv sk.kv sk.pv sk.qv sk.stop sk.cnt) := fun v w2 ho hg => by
            obtain ⟨h1, h2, h3⟩ := hIk.setDir ho hrm ((((Below.refl _ wr).alloc (Nat.le_refl _) _)).grown hg (by simp) (fun k hk => by simp [Value.ownBlock] at hk; omega))
            rw [HBK.out] at h2
            exact ⟨⟨h1, h2, h2.ownsRow hDr (noR rfl)⟩, h3⟩
          obtain ⟨x0, x1, x2, x3, x4, x5, x6, x7, xf⟩ := (hIk.at_.alloc (.cells #[] 90)).cells
          clear HC hak hbk hlt HLK HDN HFL
          go_upto_region 30 with (at_builtin; refine wpList_append_ents rfl _ _ rfl wr.heap.size (.slice (some ⟨wr.heap.size, 0, none⟩) 0 0) 0 [] rfl (World.ownsRow_made wr #[] 0 (Nat.le_refl _) (Nat.zero_le _) rfl) (.slice da dir.length dc) base dir rfl (hDr.alloc _) (by omega) (by simp) ?_; intro v1 v2 w2 ho2 hg2; rw [Nat.zero_add, List.nil_append] at ho2; rw [Nat.zero_add]; obtain ⟨hI3, ha3⟩ := HD1.out _ _ ho2 hg2; obtain ⟨e0, e1, e2, e3, e4, e5, e6, e7, ef⟩ := ha3.cells; clear x0 x1 x2 x3 x4 x5 x6 x7 xf)
          refine goOn (S := fun W => ∃ dv', IsRef W r { sk with dv := dv', dir := dir } ∧ KT (refS base) wr W ∧ W.ownsRow base 90 2 (.slice da dir.length dc) dir.length (entCells dir)) ⟨_, hI3⟩ ?_
          clear e0 e1 e2 e3 e4 e5 e6 e7 ef hI3 ha3 ho2 hg2 HD1 hDr hrm
          rintro W ⟨dv', hIW, hkW, hDW⟩
          have hrm : sk.base ≤ W.heap.size := hIW.room
          have HD2 : Hid (∀ v w2, w2.ownsRow W.heap.size 90 2 v dir.length (entCells dir) → (W.alloc (.cells #[] 90)).grownBy w2 (Value.slice (some ⟨W.heap.size, 0, none⟩) 0 0).ownBlock → (IsRef (w2.setCell ⟨r, 3, none⟩ v) r { sk with dv := dv', dir := dir, kv := v, kept := dir } ∧ KT (refS base) W (w2.setCell ⟨r, 3, none⟩ v)) ∧ RefAt w2 r sk.cap sk.fv dv' sk.kv sk.pv sk.qv sk.stop sk.cnt) := fun v w2 ho hg => by
            obtain ⟨h1, h2, h3⟩ := hIW.setKept ho hrm ((((Below.refl _ W).alloc (Nat.le_refl _) _)).grown hg (by simp) (fun k hk => by simp [Value.ownBlock] at hk; omega))
            have e9 : ({ sk with dv := dv', dir := dir } : RSt).base = base := HBK.out
            rw [e9] at h2
            exact ⟨⟨h1, h2⟩, h3⟩
          obtain ⟨x0, x1, x2, x3, x4, x5, x6, x7, xf⟩ := (hIW.at_.alloc (.cells #[] 90)).cells
          go_upto_region 31 with (at_builtin; refine wpList_append_ents rfl _ _ rfl W.heap.size (.slice (some ⟨W.heap.size, 0, none⟩) 0 0) 0 [] rfl (World.ownsRow_made W #[] 0 (Nat.le_refl _) (Nat.zero_le _) rfl) (.slice da dir.length dc) base dir rfl (hDW.alloc _) (by omega) (by simp) ?_; intro v1 v2 w2 ho2 hg2; rw [Nat.zero_add, List.nil_append] at ho2; rw [Nat.zero_add]; obtain ⟨hI3, ha3⟩ := HD2.out _ _ ho2 hg2; obtain ⟨e0, e1, e2, e3, e4, e5, e6, e7, ef⟩ := ha3.cells; clear x0 x1 x2 x3 x4 x5 x6 x7 xf)
          refine goOn (S := fun W5 => ∃ kv', IsRef W5 r { sk with dv := dv', dir := dir, kv := kv', kept := dir } ∧ KT (refS base) W W5) ⟨_, hI3⟩ ?_
          clear e0 e1 e2 e3 e4 e5 e6 e7 ef hI3 ha3 ho2 hg2 HD2 hrm
          rintro W5 ⟨kv', hI5, hk5⟩
          have HEND : Hid (RefIs (((W5.setCell ⟨r, 4, none⟩ (.slice none 0 0)).setCell ⟨r, 5, none⟩ (.slice none 0 0)).setCell ⟨r, 6, none⟩ (.int .i64 (-1))) r base (s.abs.crash cs) ∧ KT (refS base) w (((W5.setCell ⟨r, 4, none⟩ (.slice none 0 0)).setCell ⟨r, 5, none⟩ (.slice none 0 0)).setCell ⟨r, 6, none⟩ (.int .i64 (-1)))) := by
            obtain ⟨j1, k1⟩ := hI5.noPend
            obtain ⟨j2, k2⟩ := j1.noFaults
            obtain ⟨j3, k3⟩ := j2.noStop
            have e9 : sk.base = base := HBK.out
            have k1' : KT (refS sk.base) W5 _ := k1
            have k2' : KT (refS sk.base) _ _ := k2
            have k3' : KT (refS sk.base) _ _ := k3
            rw [e9] at k1' k2' k3'
            refine ⟨⟨_, j3, e9, ?_⟩, ((((HKT.out.trans hkW).trans hk5).trans k1').trans k2').trans k3'⟩
            rw [HCR.out]
            have ha := HAK.out
            have h1 : sk.cap = s.abs.cap := congrArg RA.cap ha
            have h2 : sk.cnt = s.abs.cnt := congrArg RA.cnt ha
            have h3 : sk.files.map Prod.snd = crashF dir cs nms s.abs.files nms.length := congrArg RA.files ha
            have h4 : sk.zone = s.abs.zone := congrArg RA.zone ha
            simp only [RSt.abs, h3]
            rw [h1, h2, h4]
            rfl
          obtain ⟨e0, e1, e2, e3, e4, e5, e6, e7, ef⟩ := hI5.at_.cells
          clear hI5 hIk hIW
          go_wp2
          go_end0
          exact ⟨rfl, HEND.out⟩

end Go.Proofs.Ytipakfdebccchaa
