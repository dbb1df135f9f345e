/- WordsNames: the walk. -/
import Derived.Test.YtboigkmaccdkpaaGreatDoorRNames
import Derived.Test.YtboigkmaccdkpaaGreatDoorShown
namespace Go.Proofs.YtboigkmaccdkpaaGreatDoor
open Go.RowKit Go.Shelf

set_option maxHeartbeats 1000000 in
theorem names_walk (s : ByteArray) (w : World) (he : Env w) (hs : s.size ≤ maxLen) : Calls Tryz.prog 3 #[.string s] w fun e w' => e = .returned (.bool true) ∧ Below w.heap.size w w' := by
  have c0 := shown_any w he
  have C0 := Lib.hid c0
  by_cases hl : 20000 < s.size
  · have hl' : (20000 : Int) < s.size := by omega
    clear c0 he
    go_enter Tryz.func3, Tryz.ntmps3
    go_wp2_with (go_at_call 14; refine (C0.out).mono ?_; rintro e w' ⟨rfl, hb⟩)
    go_ret
    exact ⟨rfl, hb⟩
  · have hl' : ¬ (20000 : Int) < s.size := by omega
    have c1 := name_any s w hs
    have c2 := rname_any s w hs
    have c3 := text_any s w hs
    have c4 := rtext_any s w hs
    generalize nameB s.data.toList = n at c1 c2
    generalize textB s.data.toList = t at c3 c4
    have C1 := Lib.hid c1; have C2 := Lib.hid c2; have C3 := Lib.hid c3; have C4 := Lib.hid c4
    clear c0 c1 c2 c3 c4 he
    go_enter Tryz.func3, Tryz.ntmps3
    go_wp2_with (first
      | (go_at_call 15; refine (C1.out).mono ?_; rintro e w' ⟨rfl, rfl⟩)
      | (go_at_call 16; refine (C2.out).mono ?_; rintro e w' ⟨rfl, rfl⟩)
      | (go_at_call 17; refine (C3.out).mono ?_; rintro e w' ⟨rfl, rfl⟩)
      | (go_at_call 18; refine (C4.out).mono ?_; rintro e w' ⟨rfl, rfl⟩)
      | (go_at_call 14; refine (C0.out).mono ?_; rintro e w' ⟨rfl, hb⟩))
    go_ret
    exact ⟨rfl, hb⟩
end Go.Proofs.YtboigkmaccdkpaaGreatDoor
