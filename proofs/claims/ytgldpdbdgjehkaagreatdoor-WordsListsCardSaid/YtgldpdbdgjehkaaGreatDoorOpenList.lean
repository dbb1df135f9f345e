/- A list of numbers that came in. -/
import Derived.Test.YtgldpdbdgjehkaaGreatDoorSliceArgs
import Derived.Test.YtgldpdbdgjehkaaGreatDoorListNil
namespace Go.Proofs.YtgldpdbdgjehkaaGreatDoor
open Go.ChangeShapes Go.WideShapes Go.ChangeAt Go.RowKit Go.Lib

theorem cellsI : Tryz.prog.cellsOf 3 = 1 := by kernel_rfl
theorem open_list {H : Type} {enc : TypeId × Value → H} {W : World} {a0 : Option Addr} {len cap fuel : Nat} {x : DataW H × List MemPlace}
    (hf : DataW.trod enc Tryz.prog W 0 (fun _ => true) true fuel 31 (Value.slice a0 len cap).cells.toList = some x) :
    ∃ l : List Int, IntsAtL W (.slice a0 len cap) l ∧ l.length ≤ maxLen := by
  rcases open_ints Tryz.underlying31 Tryz.underlying3 cellsI hf with ⟨hcs, hx⟩ | ⟨a, len', cap', zs, hcs, hb, hl, hm, hz, hx, hcell, hwz⟩
  · simp [Value.cells] at hcs
    obtain ⟨rfl, rfl, rfl⟩ := hcs
    exact ⟨[], .inl ⟨rfl, _, _, rfl⟩, by simp⟩
  · simp [Value.cells] at hcs
    obtain ⟨rfl, rfl, rfl⟩ := hcs
    simp only [if_true] at hz
    by_cases h0 : len = 0
    · subst h0
      exact ⟨[], .inl ⟨rfl, _, _, rfl⟩, by simp⟩
    · obtain ⟨b, off, spot⟩ := a
      have hspot : spot = none := by simpa [Addr.add] using World.cell?_spot (hcell 0 (by omega))
      subst hspot
      have hbl : b < W.heap.size := World.block_lt_of_cell? W _ (hcell 0 (by omega))
      have hlen : (zs.take len).length = len := by rw [List.length_take]; omega
      refine ⟨zs.take len, .inr ⟨by omega, b, off, _, by rw [hlen], hbl, by omega, ?_⟩, by omega⟩
      intro j hj
      rw [hlen] at hj
      have h1 := hcell j (by omega)
      have e : zs.getD j 0 = at0 (zs.take len) j := by
        unfold at0
        rw [List.getElem?_take_of_lt hj, List.getD_eq_getElem?_getD]
      rw [e] at h1
      rw [← WideShapes.add_plain, h1]
end Go.Proofs.YtgldpdbdgjehkaaGreatDoor
