/- What both tells of two iterators that tell one series each, of one label set. -/
import Derived.Test.YtjnjmpfldbkciaaGreatMYk
import Derived.Test.YtjnjmpfldbkciaaGreatYj
import Derived.Sort.CutIn
import Derived.Stop.RegionWithIn
namespace Go.Proofs.YtjnjmpfldbkciaaGreat
open Go.RowKit Go.Shelf Go.Maps
attribute [local go_sem] Oper.semAt_some

theorem wpIn_asThen {F : Fence} {n : Nat} {P : Program} {c : Code} {Q : Exit → Act → World → Prop} {a : Act} {w : World} (h : ∀ K : Act → World → Prop, (∀ a w, Q .normal a w → K a w) → c.wpIn F n P (Exit.then K (fun _ _ _ => False)) a w) : c.wpIn F n P Q a w := by
  refine wpIn_mono (h (fun a w => Q .normal a w) (fun _ _ h => h)) ?_
  intro e a' w' hq
  cases e with
  | normal => exact hq
  | exit id => exact hq.elim
  | goto l => exact hq.elim
  | ret => exact hq.elim
  | panic ch => exact hq.elim
  | outgrown => exact hq.elim

/-- Behind the round: z was told in Wy, and what waits is empty. -/
def BothR (R : World → World → Prop) (W w1 : World) (W1 A : World) : Prop := ∃ Wy, Below W.heap.size W Wy ∧ W1.heap.size ≤ Wy.heap.size ∧ R Wy A ∧ ∃ ad cc, A.heap[w1.heap.size]? = some (.cells #[.slice ad 0 cc] 22)

/-- Behind the one that waited: x has both's samples. -/
def StB (w1 W1 Wb : World) (vl : Value) (ls : List Lb) (xs : List Sm) (wr : World) : Prop := ∃ ad cc a5 c5, wr.heap[w1.heap.size]? = some (.cells #[.slice ad 0 cc] 22) ∧ wr.heap[W1.heap.size]? = some (.cells #[vl, .slice a5 xs.length c5] 36) ∧ SmAt wr (.slice a5 xs.length c5) xs ∧ LbAt wr vl ls ∧ Kept (fun i => i = w1.heap.size ∨ i = W1.heap.size) Wb wr
/-- Behind x.Samples = together(..). -/
def StC (W1 Wb : World) (vl : Value) (ls : List Lb) (xs : List Sm) (wr : World) : Prop := ∃ a5 c5, wr.heap[W1.heap.size]? = some (.cells #[vl, .slice a5 xs.length c5] 36) ∧ SmAt wr (.slice a5 xs.length c5) xs ∧ LbAt wr vl ls ∧ Kept (fun i => i = W1.heap.size) Wb wr ∧ ∀ b, blkOf (.slice a5 xs.length c5) = some b → Wb.heap.size ≤ b
def lenAt (n : Nat) (wr : World) : Nat := match wr.cell? ⟨n, 0, none⟩ with | some (.slice _ k _) => k | _ => 0

set_option maxRecDepth 100000 in
set_option maxHeartbeats 4000000 in
theorem both1_tells (Ba Bb ga gb : Nat) (la lbb : Array Value) (za zb : Ser) (W0 : World) (hBa : Ba < W0.heap.size) (hBb : Bb < W0.heap.size) (ca : W0.cell? ⟨Ba, 0, none⟩ = some (.func (.func ga) #[] la)) (cbb : W0.cell? ⟨Bb, 0, none⟩ = some (.func (.func gb) #[] lbb))
    (hTa : Tells1 Tryz.prog ga la za W0 False) (hTb : Tells1 Tryz.prog gb lbb zb W0 False) (ega : ∀ args w, (callFunc ga args).run Tryz.prog w = .ok (.enter ga args) w) (egb : ∀ args w, (callFunc gb args).run Tryz.prog w = .ok (.enter gb args) w)
    (hcmp : cmpL zb.1 za.1 = 0) (hl1 : za.1.length ≤ 1000) (hl2 : zb.1.length ≤ 1000) (hl3 : za.2.length + zb.2.length ≤ 100000) :
    Tells1 Tryz.prog 90 #[.pointer (some ⟨Bb, 0, none⟩), .pointer (some ⟨Ba, 0, none⟩)] (za.1, togS za.2 zb.2) W0 True := by
  intro l W R hW hRa hY
  have mixed : Tryz.prog.follows .mixedOrders = true := by kernel_rfl
  have hs0 := hW.size
  have hcol := collect1 gb lbb zb W0 (W.alloc (.cells #[.func (.yield l) #[] #[]] 77)) hTb (hW.alloc hs0 _) egb
  have cb1 : (W.alloc (.cells #[.func (.yield l) #[] #[]] 77)).cell? ⟨Bb, 0, none⟩ = some (.func (.func gb) #[] lbb) := ((hW.alloc hs0 _).cell (p := ⟨Bb, 0, none⟩) hBb).trans cbb
  refine (callsIn_wide (n := 10)).1 ?_
  refine callsIn_of_wp_marks Tryz.func90 rfl trivial ?_ rfl
  simp only [Tryz.ntmps90, List.size_toArray, List.length_cons, List.length_nil, Nat.reduceAdd, Nat.reduceSub, Array.replicate_succ, Array.replicate_zero, List.push_toArray, List.append_toArray, List.nil_append, List.cons_append]
  have HHW : Hid (Below W0.heap.size W0 W) := hW
  have HRA : Hid _ := hRa
  have HYY : Hid _ := hY
  have HTA : Hid _ := hTa
  have HCA : Hid (W0.cell? ⟨Ba, 0, none⟩ = some (.func (.func ga) #[] la)) := ca
  clear hRa hY hTa hTb ca cbb hW
  gi_wp2_with (refine ⟨trivial, ?_⟩; gi_at_call 91; refine (callsIn_wide.2 hcol).mono ?_; clear hcol; rintro e w1 ⟨v, rfl, ⟨g, c, vlb, vsb, rfl, hrow, hlb, hsb, hbl, hbs⟩, hb1⟩; have ca1 : (w1.alloc (.cells #[.slice (some ⟨g, 0, none⟩) 1 c] 22)).cell? ⟨Ba, 0, none⟩ = some (.func (.func ga) #[] la) := (((HHW.out.alloc hs0 _).trans (hb1.mono (by simp; omega))).alloc (by have := hb1.size; simp at this; omega) _ |>.cell (p := ⟨Ba, 0, none⟩) hBa).trans HCA.out)
  obtain ⟨Y, hY⟩ : ∃ Y, W.alloc (.cells #[.func (.yield l) #[] #[]] 77) = Y := ⟨_, rfl⟩
  have hsY : Y.heap.size = W.heap.size + 1 := by rw [← hY]; simp
  have hbY : Below W.heap.size W Y := by rw [← hY]; exact (Below.refl _ _).alloc (Nat.le_refl _) _
  have hyb : Y.heap[W.heap.size]? = some (.cells #[.func (.yield l) #[] #[]] 77) := by rw [← hY]; exact heap_alloc_new W _
  rw [hY] at hb1 hrow
  clear hY cb1
  obtain ⟨W2, hW2⟩ : ∃ W2, w1.alloc (.cells #[.slice (some ⟨g, 0, none⟩) 1 c] 22) = W2 := ⟨_, rfl⟩
  rw [hW2] at ca1 ⊢
  have hs1 := hb1.size
  have hs2 : W2.heap.size = w1.heap.size + 1 := by rw [← hW2]; simp
  have hb2 : Below w1.heap.size w1 W2 := by rw [← hW2]; exact (Below.refl _ _).alloc (Nat.le_refl _) _
  have hwb : W2.heap[w1.heap.size]? = some (.cells #[.slice (some ⟨g, 0, none⟩) 1 c] 22) := by rw [← hW2]; exact heap_alloc_new w1 _
  clear hW2
  have hyw : Below W.heap.size W W2 := (hbY.trans (hb1.mono (by omega))).trans (hb2.mono (by omega))
  refine range_one (T := 36) (w0 := W0) (by omega) (gf := ga) (lb := la) rfl ega za HTA.out (HHW.out.trans (hyw.mono hs0)) rfl
    (BothR R W w1) ?abide
    (fun vl vs W1 => { tmps := #[.func (.yield l) #[] #[], .pointer (some ⟨Bb, 0, none⟩), .pointer (some ⟨Ba, 0, none⟩), .pointer (some ⟨W.heap.size, 0, none⟩), .pointer (some ⟨w1.heap.size, 0, none⟩), .pointer (some ⟨W1.heap.size, 0, none⟩), undef, undef, undef, .func (.func gb) #[] lbb, .slice (some ⟨g, 0, none⟩) 1 c, .func (.func ga) #[] la, .agg #[vl, vs], undef, undef, undef, undef, undef, undef, undef, undef, undef, undef, undef, undef, undef, undef, undef, undef, undef, undef, undef, undef, undef, undef, undef, undef, undef, undef, undef, undef, undef, undef, undef, undef, undef, undef, undef, undef, undef, undef, undef, undef, undef, undef, undef, undef, undef], defers := [] }) ?assign ?body ?done
  case abide =>
    rintro W1 A A' ⟨Wy, h1, h2, h3, ad, cc, h4⟩ hsz hk
    have hkk := hk.mono (O' := fun i => W2.heap.size ≤ i ∧ i < W2.heap.size + 2) (fun i _ hi => by rcases hi with hi | hi <;> first | omega | exact hi.1.elim)
    exact ⟨Wy, h1, h2, HRA.out _ _ _ h3 h1.size (hkk.mono (fun i _ hi => ⟨trivial, by omega, by omega⟩)), ad, cc, hkk.heap h4 (by omega)⟩
  case assign =>
    rintro l vl vs W1 K ⟨a1, n1, c1, rfl⟩ ⟨a2, n2, c2, rfl⟩ hK
    gi_wp2
    exact hK
  case done =>
    rintro W1 A hb3 hsz ⟨Wy, h1, h2, h3, ad, cc, h4⟩ hdef
    have cw : A.cell? ⟨w1.heap.size, 0, none⟩ = some (.slice ad 0 cc) := by rw [cell_of_heap h4]; rfl
    have H1 : Hid _ := h1
    have H3 : Hid (R Wy A) := h3
    clear h1 h3 h4 hrow hlb hsb hbl hbs HTA HYY hwb hyb ca1
    gi_wp2
    gi_loopw [49] (fun i wr => i = .int .i64 0 ∧ wr = A) (fun _ _ => 0)
    case atStart => exact ⟨rfl, rfl⟩
    case round =>
      obtain ⟨rfl, rfl⟩ := hrel
      gi_wp2
      refine ⟨by simp, .inl ⟨_, _, rfl, run_takeDeferred hdef, ?_⟩⟩
      exact ⟨_, results_none rfl _ _ _, ⟨_, rfl⟩, Wy, H1.out, HRA.out _ _ _ H3.out H1.out.size ((Kept.refl _ _).putObj (fun _ => ⟨trivial, by omega, by omega⟩) _)⟩
  case body =>
    rintro l1 vl vs W1 Wb rfl hb3 hsz hkb ⟨hl, hs, htd⟩
    have htd := htd.resolve_left id
    obtain ⟨a1, c1, rfl, -⟩ := id hl
    obtain ⟨a2, c2, rfl, -⟩ := id hs
    -- what was there when the loop began is there
    have hold : ∀ (i : Nat) (o : Obj), i < W2.heap.size → W2.heap[i]? = some o → Wb.heap[i]? = some o := fun i o hi ho => hkb.heap ((Below.heap_alloc W1 _ _ (by omega)).trans ((hb3.block i hi).trans ho)) (by omega)
    have hyx : Wb.heap[W.heap.size]? = some (.cells #[.func (.yield l) #[] #[]] 77) := hold _ _ (by omega) ((hb2.block _ (by omega)).trans ((hb1.block _ (by omega)).trans hyb))
    have hwx : Wb.heap[w1.heap.size]? = some (.cells #[.slice (some ⟨g, 0, none⟩) 1 c] 22) := hold _ _ (by omega) hwb
    have hxx : Wb.heap[W1.heap.size]? = some (.cells #[.slice a1 za.1.length c1, .slice a2 za.2.length c2] 36) := hkb.heap (heap_alloc_new W1 _) (by omega)
    have hszb : Wb.heap.size ≥ W1.heap.size + 1 := by have := hkb.size; simpa using this
    have hkw : Kept (fun i => False) w1 Wb := ⟨by rw [hkb.os]; exact hb3.os.trans hb2.os, by rw [hkb.tape]; exact hb3.tape.trans hb2.tape, by rw [hkb.output]; exact hb3.output.trans hb2.output, by omega, fun k hk _ => by
      have h9 := hkb.block k (by simp; omega) (by omega)
      rw [h9, Below.heap_alloc W1 _ _ (by omega), hb3.block k (by omega), hb2.block k hk]⟩
    have hrowb := hkw.ownsRow hrow (fun _ _ h => h)
    have hlbb := RowAt.kept hlb hkw (fun _ _ h => h)
    have hsbb := RowAt.kept hsb hkw (fun _ _ h => h)
    have hbW : Below W.heap.size W Wb := hyw.trans ((hkw.toBelow (B := w1.heap.size) (Nat.le_refl _) (fun _ h => h.elim)).mono (by omega) |> fun h => ⟨h.os.trans hb2.os.symm, h.tape.trans hb2.tape.symm, h.output.trans hb2.output.symm, by omega, fun k hk => (h.block k hk).trans (hb2.block k (by omega)).symm⟩)
    obtain ⟨a3, c3, rfl, -⟩ := id hlbb
    obtain ⟨a4, c4, rfl, -⟩ := id hsbb
    obtain ⟨_, _, e9, hcl, -⟩ := RowAt.sub (RowAt.of_row hrowb)
    cases e9
    have hci : (1 : Int) ≤ (c : Int) := by omega
    obtain ⟨b, o, e, q0⟩ := RowAt.one (RowAt.of_row hrowb) (j := 0) rfl
    cases e
    obtain ⟨b, o, e, q1⟩ := RowAt.one (RowAt.of_row hrowb) (j := 1) rfl
    cases e
    have HOLD : Hid (∀ X, Below Wb.heap.size Wb X → X.cell? ⟨w1.heap.size, 0, none⟩ = some (.slice (some ⟨g, 0, none⟩) 1 c) ∧ X.cell? ⟨g, 0, none⟩ = some (.slice a3 zb.1.length c3) ∧ X.cell? ⟨g, 1, none⟩ = some (.slice a4 zb.2.length c4) ∧ X.cell? ⟨W1.heap.size, 0, none⟩ = some (.slice a1 za.1.length c1) ∧ X.cell? ⟨W1.heap.size, 1, none⟩ = some (.slice a2 za.2.length c2) ∧ X.frozen? ⟨W1.heap.size, 1, none⟩ = false ∧ Hid (X.heap[W1.heap.size]? = some (.cells #[.slice a1 za.1.length c1, .slice a2 za.2.length c2] 36) ∧ X.heap[w1.heap.size]? = some (.cells #[.slice (some ⟨g, 0, none⟩) 1 c] 22))) := fun X hX => by
      have k1 : X.heap[w1.heap.size]? = _ := (hX.block _ (by omega)).trans hwx
      have k2 : X.heap[W1.heap.size]? = _ := (hX.block _ (by omega)).trans hxx
      exact ⟨World.news_of_block k1 0 _ rfl, q0 X hX, q1 X hX, World.news_of_block k2 0 _ rfl, World.news_of_block k2 1 _ rfl, frozen_of_heap k2, k2, k1⟩
    have HCMP : Hid (∀ X, Below Wb.heap.size Wb X → Calls Tryz.prog 23 #[.slice a3 zb.1.length c3, .slice a1 za.1.length c1] X fun e w' => e = .returned (.int .i64 0) ∧ Below X.heap.size X w') := fun X hX => by
      have h9 := compare_sets _ _ zb.1 za.1 X (RowAt.below hlbb hX) (RowAt.below hl hX) (by omega) (by omega)
      rw [hcmp] at h9
      exact h9
    have HTOG : Hid (∀ X, Below Wb.heap.size Wb X → Calls Tryz.prog 92 #[.slice a2 za.2.length c2, .slice a4 zb.2.length c4] X fun e w' => ∃ a5 c5, e = .returned (.slice a5 (togS za.2 zb.2).length c5) ∧ w'.ownsRow X.heap.size 42 2 (.slice a5 (togS za.2 zb.2).length c5) (togS za.2 zb.2).length (smC (togS za.2 zb.2)) ∧ Below X.heap.size X w') := fun X hX => together_any _ _ za.2 zb.2 X (RowAt.below hs hX) (RowAt.below hsbb hX) hl3
    have HLA : Hid (∀ X, Below Wb.heap.size Wb X → LbAt X (.slice a1 za.1.length c1) za.1) := fun X hX => RowAt.below hl hX
    have HYX : Hid (Wb.heap[W.heap.size]? = some (.cells #[.func (.yield l) #[] #[]] 77)) := hyx
    have HBW : Hid (Below W.heap.size W Wb) := hbW
    have HTD : Hid _ := htd
    obtain ⟨r0, r1, r2, r3, r4, r5, -⟩ := HOLD.out Wb (Below.refl _ _)
    clear hl hs hlb hsb hlbb hsbb hold hyx hwx hxx hkw hrow hrowb hbW htd hkb hb3 q0 q1 hbl hbs hcmp HTA hwb hyb hyw ca1 hb2 hb1 hbY HCA
    gi_wp2_with fail
    gi_loopw [6] (fun _ wr => wr = Wb ∨ Hid (StB w1 W1 Wb (.slice a1 za.1.length c1) za.1 (togS za.2 zb.2) wr)) (fun _ wr => lenAt w1.heap.size wr)
    case atStart => exact Or.inl rfl
    case round =>
      rcases hrel with rfl | hrel
      · gi_wp2_with fail
        gi_cut [6, 43, 44, 45, 46, 47, 48, 49, 50, 51, 52, 53, 54, 55, 56, 57] from 13 (fun o y43 y44 y45 y46 y47 y48 y49 y50 y51 y52 y53 y54 y55 y56 y57 wx => o = .int .i64 0 ∧ (y43 = undef ∧ y44 = undef ∧ y45 = undef ∧ y46 = undef ∧ y47 = undef ∧ y48 = undef ∧ y49 = undef ∧ y50 = undef ∧ y51 = undef ∧ y52 = undef ∧ y53 = undef ∧ y54 = undef ∧ y55 = undef ∧ y56 = undef ∧ y57 = undef) ∧ Hid (Below wr.heap.size wr wx))
        case first =>
          rename_i J0 K0 hJ0 hK0
          gi_region_with_o (refine ⟨trivial, ?_⟩; gi_at_call 23; refine (CallsIn.inRound _ (callsIn_wide.2 (HCMP.out _ (by exact ⟨rfl, rfl, rfl, Nat.le_refl _, fun _ _ => rfl⟩)))).mono ?_; rintro e w' ⟨rfl, hb'⟩)
          all_goals
            refine hK0 _ _ (Met.intro (hJ0 _ _ ?_))
            (repeat apply Exists.intro)
            refine ⟨?_, rfl⟩
            exact ⟨rfl, ⟨rfl, rfl, rfl, rfl, rfl, rfl, rfl, rfl, rfl, rfl, rfl, rfl, rfl, rfl, rfl⟩, ⟨hb'.os, hb'.tape, hb'.output, hb'.size, hb'.block⟩⟩
        case rest =>
          obtain ⟨rfl, ⟨rfl, rfl, rfl, rfl, rfl, rfl, rfl, rfl, rfl, rfl, rfl, rfl, rfl, rfl, rfl⟩, hbc⟩ := hcut
          obtain ⟨s0, s1, s2, s3, s4, s5, -⟩ := HOLD.out wc hbc.out
          clear r0 r1 r2 r3 r4 r5
          gi_wp2_with fail
          refine wpIn_asThen (fun K hK => ?_)
          gi_cut [6, 43, 44, 45, 46, 47, 48, 49, 50, 51, 52, 53, 54, 55, 56, 57] from 13 (fun _ y43 y44 y45 y46 y47 y48 y49 y50 y51 y52 y53 y54 y55 y56 y57 wx => (y43 = undef ∧ y44 = undef ∧ y45 = undef ∧ y46 = undef ∧ y47 = undef ∧ y48 = undef ∧ y49 = undef ∧ y50 = undef ∧ y51 = undef ∧ y52 = undef ∧ y53 = undef ∧ y54 = undef ∧ y55 = undef ∧ y56 = undef ∧ y57 = undef) ∧ Hid (StC W1 wr (.slice a1 za.1.length c1) za.1 (togS za.2 zb.2) wx))
          case first =>
            rename_i J0 K0 hJ0 hK0
            gi_region_with_o (refine ⟨trivial, ?_⟩; gi_at_call 92; refine (CallsIn.inRound _ (callsIn_wide.2 (HTOG.out _ (by exact ⟨hbc.out.os, hbc.out.tape, hbc.out.output, hbc.out.size, hbc.out.block⟩)))).mono ?_; rintro e w' ⟨a5, c5, rfl, hr5, hb5⟩; have HB5 : Hid (Below wr.heap.size wr w') := hbc.out.trans (B := wr.heap.size) ⟨hb5.os, hb5.tape, hb5.output, hb5.size, fun k hk => hb5.block k (by have := hbc.out.size; show k < wc.heap.size; omega)⟩; have HR5 : Hid _ := hr5; obtain ⟨t0, t1, t2, t3, t4, t5, T6⟩ := HOLD.out w' HB5.out; clear hr5 hb5 t0 t1 t2)
            all_goals
              refine hK0 _ _ (Met.intro (hJ0 _ _ ?_))
              (repeat apply Exists.intro)
              refine ⟨?_, rfl⟩
              have hks : Kept (fun i => i = W1.heap.size) w' (w'.setCell ⟨W1.heap.size, 1, none⟩ (.slice a5 (togS za.2 zb.2).length c5)) := (Kept.refl (fun i => i = W1.heap.size) _).setCell (fun _ => rfl) _
              have hwcs : wr.heap.size ≤ wc.heap.size := hbc.out.size
              refine ⟨⟨rfl, rfl, rfl, rfl, rfl, rfl, rfl, rfl, rfl, rfl, rfl, rfl, rfl, rfl, rfl⟩, ?_⟩
              exact ⟨a5, c5, heap_setCell_same T6.out.1 _, RowAt.of_row (hks.ownsRow HR5.out (fun b hb' hbe => by have h8 : wc.heap.size ≤ b := (World.ownsRow.lt HR5.out b hb').1; omega)), RowAt.kept (HLA.out w' HB5.out) hks (fun b hb' hbe => by have := HTD.out.1 b hb'; omega), (Kept.of_below HB5.out _ (fun i h1 h2 => absurd h2 (by omega))).trans hks (fun i _ hi => hi), fun b hb' => by have h8 : wc.heap.size ≤ b := row_base HR5.out b hb'; omega⟩
          case rest =>
            refine hK _ _ ?_
            obtain ⟨⟨rfl, rfl, rfl, rfl, rfl, rfl, rfl, rfl, rfl, rfl, rfl, rfl, rfl, rfl, rfl⟩, hcut⟩ := hcut
            obtain ⟨a5, c5, k1, k2, k3, k4, k6⟩ := hcut.out
            have K6 : Hid _ := k6
            clear k6
            have hw9 : wc.heap[w1.heap.size]? = some (.cells #[.slice (some ⟨g, 0, none⟩) 1 c] 22) := k4.heap (HOLD.out wr (Below.refl _ _)).2.2.2.2.2.2.out.2 (by omega)
            have cw : wc.cell? ⟨w1.heap.size, 0, none⟩ = some (.slice (some ⟨g, 0, none⟩) 1 c) := by rw [cell_of_heap hw9]; rfl
            have fw : wc.frozen? ⟨w1.heap.size, 0, none⟩ = false := frozen_of_heap hw9
            have HW9 : Hid _ := hw9
            have K1 : Hid (wc.heap[W1.heap.size]? = some (.cells #[.slice a1 za.1.length c1, .slice a5 (togS za.2 zb.2).length c5] 36)) := k1
            have K2 : Hid (SmAt wc (.slice a5 (togS za.2 zb.2).length c5) (togS za.2 zb.2)) := k2
            have K3 : Hid (LbAt wc (.slice a1 za.1.length c1) za.1) := k3
            have K4 : Hid (Kept (fun i => i = W1.heap.size) wr wc) := k4
            clear k1 k2 k3 k4 hw9 hcut s0 s1 s2 s3 s4 s5
            have hlw : lenAt w1.heap.size wr = 1 := by
              unfold lenAt
              rw [(HOLD.out wr (Below.refl _ _)).1]
            gi_wp2
            all_goals
              have hln : ∀ (ad : Option Addr) (cc : Nat), (lenAt w1.heap.size (wc.setCell ⟨w1.heap.size, 0, none⟩ (.slice ad 0 cc)) = 0 ∧ Kept (fun i => i = w1.heap.size) wc (wc.setCell ⟨w1.heap.size, 0, none⟩ (.slice ad 0 cc)) ∧ (wc.setCell ⟨w1.heap.size, 0, none⟩ (.slice ad 0 cc)).heap[w1.heap.size]? = some (.cells #[.slice ad 0 cc] 22)) := fun ad cc => by
                have h9 : (wc.setCell ⟨w1.heap.size, 0, none⟩ (.slice ad 0 cc)).heap[w1.heap.size]? = some (.cells #[.slice ad 0 cc] 22) := heap_setCell_same HW9.out _
                refine ⟨?_, (Kept.refl (fun i => i = w1.heap.size) _).setCell (fun _ => rfl) _, h9⟩
                unfold lenAt
                rw [cell_of_heap h9]
                rfl
              obtain ⟨n1, n2, n3⟩ := hln _ _
              refine ⟨Or.inr ⟨_, _, a5, c5, n3, n2.heap K1.out (by omega), RowAt.kept K2.out n2 ?_, RowAt.kept K3.out n2 (fun b hb' hbe => by have := HTD.out.1 b hb'; omega), (K4.out.mono (fun i _ hi => Or.inr hi)).trans n2 (fun i _ hi => Or.inl hi)⟩, ?_⟩
              · exact fun b hb' hbe => by have := K6.out b hb'; omega
              · rw [hlw, n1]
                omega
      · obtain ⟨ad, cc, a5, c5, k1, k2, k3, k4, k5⟩ := hrel.out
        have cw : wr.cell? ⟨w1.heap.size, 0, none⟩ = some (.slice ad 0 cc) := by rw [cell_of_heap k1]; rfl
        have cx : wr.cell? ⟨W1.heap.size, 0, none⟩ = some (.slice a1 za.1.length c1) := by rw [cell_of_heap k2]; rfl
        have cx1 : wr.cell? ⟨W1.heap.size, 1, none⟩ = some (.slice a5 (togS za.2 zb.2).length c5) := by rw [cell_of_heap k2]; rfl
        have hy9 := k5.heap HYX.out (by omega)
        have cy : wr.cell? ⟨W.heap.size, 0, none⟩ = some (.func (.yield l) #[] #[]) := by rw [cell_of_heap hy9]; rfl
        have hbr : Below W.heap.size W wr := HBW.out.trans (k5.toBelow (by omega) (fun i hi => by omega))
        obtain ⟨fn, tmps, assign, body, hyy, hR⟩ := yieldAt_anyDepth (F := Fence.wide) rfl 9 (HYY.out wr _ _ hbr ⟨k4, k3, Or.inl trivial⟩)
        have K1 : Hid _ := k1
        have K5 : Hid _ := k5
        have HBR : Hid _ := hbr
        have hsr := k5.size
        clear k1 k2 k3 k4 k5 hy9 hbr hrel HYY r0 r1 r2 r3 r4 r5
        gi_wp2
        refine RoundIn.mono (F := Fence.wide.inRound (w1.heap.size + 1 + 1)) hR ?_
        rintro e W3 ⟨rfl, hk3, hr3⟩
        have K3 : Hid _ := hk3
        have HR3 : Hid (R wr W3) := hr3
        clear hk3 hr3
        gi_wp2
        exact ⟨(K5.out.mono (fun i _ hi => by rcases hi with rfl | rfl <;> omega)).trans K3.out (fun i _ hi => Or.inl ⟨hi.1, by omega⟩), wr, HBR.out, by omega, HR3.out, ad, cc, K3.out.heap K1.out (by omega)⟩

end Go.Proofs.YtjnjmpfldbkciaaGreat
