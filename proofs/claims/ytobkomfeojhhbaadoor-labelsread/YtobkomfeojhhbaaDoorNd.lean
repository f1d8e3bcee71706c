/- mark: a label that nobody has. -/
import Derived.Test.YtobkomfeojhhbaaDoorL7
import Derived.Test.YtobkomfeojhhbaaDoorKp
import Derived.Laws.BytesString
namespace Go.Proofs.YtobkomfeojhhbaaDoor
open Go.RowKit Go.Maps

def markB (i : Nat) : Lb := (⟨#[108, 101, 110, 116]⟩, ⟨#[UInt8.ofNat (97 + i)]⟩)

theorem conv_one (w : World) (g : Nat) (n : Nat) (hc : w.cell? ⟨g, 0, none⟩ = some (.int .u8 n)) : (convert 38 9 (.slice (some ⟨g, 0, none⟩) 1 1)).run Tryd.prog w = .ok (.string ⟨#[UInt8.ofNat n]⟩) w := by
  have hl : (loadCells ⟨g, 0, none⟩ 1).run Tryd.prog w = .ok ([(n : Int)].map (Value.int .u8)).toArray w := by
    have := run_loadCells_list (P := Tryd.prog) w ⟨g, 0, none⟩ [.int .u8 n] (fun j u hj => by
      match j, hj with
      | 0, hj => simp at hj; subst hj; exact hc
      | j + 1, hj => simp at hj)
    exact this
  rw [run_convert_bytes_string w 38 9 5 _ 1 1 Tryd.underlying38 Tryd.underlying5 Tryd.underlying9, run_bytesToString w _ 1 1 _ hl]
  rfl

set_option maxRecDepth 100000 in
set_option maxHeartbeats 1000000 in
theorem mark_any (i : Nat) (w : World) (hi : i < 20) :
    Calls Tryd.prog 41 #[.int .i64 i] w fun e w' => e = .returned (.agg #[.string (markB i).1, .string (markB i).2]) ∧ Below w.heap.size w w' := by
  have hcv := conv_one ((w.alloc (.cells #[.string ⟨#[]⟩, .string ⟨#[]⟩] 51)).alloc (.cells #[.int .u8 (97 + i : Nat)] 5)) (w.heap.size + 1) (97 + i) (by
    have h9 := heap_alloc_new (w.alloc (.cells #[.string ⟨#[]⟩, .string ⟨#[]⟩] 51)) (.cells #[.int .u8 (97 + i : Nat)] 5 (0, 0))
    rw [World.size_alloc] at h9
    exact World.news_of_block h9 0 _ rfl)
  have e97 : ((97 + i : Nat) : Int) = 97 + (i : Int) := by omega
  rw [e97] at hcv
  clear e97
  unfold markB
  dsimp only
  generalize (⟨#[UInt8.ofNat (97 + i)]⟩ : ByteArray) = y at *
  have HB : Hid (Below w.heap.size w ((w.alloc (.cells #[.string ⟨#[108, 101, 110, 116]⟩, .string y] 51)).alloc (.cells #[.int .u8 (97 + (i : Int))] 5))) := ((Below.refl _ _).alloc (Nat.le_refl _) _).alloc (by simp) _
  go_enter Tryd.func41, Tryd.ntmps41
  go_wp2
  exact bodyPost_ret (v := .agg #[.string ⟨#[108, 101, 110, 116]⟩, .string y]) (by simp [results, Tryd.results41, go_sem]) rfl ⟨rfl, HB.out⟩

end Go.Proofs.YtobkomfeojhhbaaDoor
