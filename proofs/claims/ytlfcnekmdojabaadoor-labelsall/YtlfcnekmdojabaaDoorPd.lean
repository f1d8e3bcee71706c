/- LabelsAll. -/
import Derived.Test.YtlfcnekmdojabaaDoorPb
import Derived.Test.YtlfcnekmdojabaaDoorLl
import Derived.Test.YtlfcnekmdojabaaDoorLh
namespace Go.Proofs.YtlfcnekmdojabaaDoor
open Go.RowKit Go.Maps Go.Sort

theorem foldS_len : ∀ (l out : List Lb), out.length ≤ 64 → (l.foldl stepS out).length ≤ 64
  | [], _, h => h
  | x :: t, out, h => by
    rw [List.foldl_cons]
    refine foldS_len t _ ?_
    unfold stepS
    split
    · exact newR_length _
    · exact h

theorem allLaw_any (v : Value) (ls : List Lb) (stop : Int) (w : World) (h : LabsAt w v ls) (hsz : Sized ls) (hs : -9223372036854775808 ≤ stop ∧ stop ≤ 9223372036854775807) (hT : Tabs w) :
    Calls Tryd.prog 3 #[v, .int .i64 stop] w fun e w' => e = .returned (.bool true) ∧ Below w.heap.size w w' := by
  have hl : (setL ls).length ≤ 80 := by
    have := foldS_len (ls.take 80) [] (by simp)
    unfold setL
    omega
  refine allLaw_of v (setL ls) stop w hs.1 hs.2 hl (fun W hW => ?_) (fun W hW => wakes_any W (hT.below hW))
  refine (set_any v ls W (h.below hW) hsz).mono ?_
  rintro e w' ⟨v', rfl, hr, hb⟩
  obtain ⟨a, c, rfl⟩ := slice_of_row hr
  exact ⟨a, c, rfl, LabsAt.of_row hr, hb⟩

end Go.Proofs.YtlfcnekmdojabaaDoor
