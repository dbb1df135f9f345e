/- What came in as a slice: as a list; and read again in a world that has grown. -/
import Derived.Test.YtgldpdbdgjehkaaGreatDoorLaid
import Derived.Test.YtgldpdbdgjehkaaGreatDoorAlike
import Derived.Carry
import Derived.Deep.SlicePairs
namespace Go.Proofs.YtgldpdbdgjehkaaGreatDoor
open Go.ChangeShapes Go.WideShapes Go.ChangeAt Go.RowKit Go.Lib

theorem laidOut : laidOutB Tryz.prog = true := by kernel_rfl
theorem cellsF : Tryz.prog.cellsOf 55 = 2 := by kernel_rfl
theorem cellsB : Tryz.prog.cellsOf 4 = 1 := by kernel_rfl
theorem cellsS : Tryz.prog.cellsOf 9 = 1 := by kernel_rfl
theorem open_flds {H : Type} {enc : TypeId × Value → H} {W : World} {a0 : Option Addr} {len cap fuel : Nat} {x : DataW H × List MemPlace}
    (hf : DataW.trod enc Tryz.prog W 0 (fun _ => true) true fuel 45 (Value.slice a0 len cap).cells.toList = some x) :
    ∃ fs : List Fld, FldsAt W (.slice a0 len cap) fs ∧ fs.length ≤ maxLen ∧ ∀ f ∈ fs, f.2.length ≤ maxLen := by
  rcases Go.Deep.open_slice_pairs Tryz.underlying45 Tryz.underlying55 cellsF rfl rfl cellsB cellsS hf with ⟨hcs, hx⟩ | ⟨a, len', cap', m, n, V0, V1, D0, D1, P0, P1, hcs, hb, hl, hm, hmm, hx, hcell⟩
  · simp [Value.cells] at hcs
    obtain ⟨rfl, rfl, rfl⟩ := hcs
    exact ⟨[], .inl ⟨rfl, _, _, rfl⟩, by simp, by simp⟩
  · simp [Value.cells] at hcs
    obtain ⟨rfl, rfl, rfl⟩ := hcs
    simp only [if_true] at hmm
    subst hmm
    by_cases h0 : len = 0
    · subst h0
      exact ⟨[], .inl ⟨rfl, _, _, rfl⟩, by simp, by simp⟩
    · obtain ⟨b, off, spot⟩ := a
      have hspot : spot = none := by simpa [Addr.add] using World.cell?_spot (hcell 0 (by omega)).1
      subst hspot
      have hbl : b < W.heap.size := World.block_lt_of_cell? W _ (hcell 0 (by omega)).1
      have each : ∀ i, i < len → ∃ f : Fld, V0 i = .bool f.1 ∧ V1 i = .string ⟨f.2.toArray⟩ ∧ f.2.length ≤ maxLen := by
        intro i hi
        obtain ⟨_, _, g0, g1⟩ := hcell i (by omega)
        obtain ⟨bb, e0, _⟩ := DataW.trod_bool Tryz.underlying4 g0
        obtain ⟨ss, e1, _, hs⟩ := DataW.trod_string Tryz.underlying9 g1
        refine ⟨(bb, ss.data.toList), by simpa using e0, ?_, by rw [size_list]; exact hs⟩
        rw [ba_list]; simpa using e1
      obtain ⟨F, hF⟩ := Go.Deep.choose_lt each
      have hlen : ((List.range len).map F).length = len := by simp
      refine ⟨(List.range len).map F, .inr ⟨by omega, b, off, _, by rw [hlen], hbl, ?_⟩, by rw [hlen]; omega, ?_⟩
      · intro j hj
        rw [hlen] at hj
        obtain ⟨k0, k1, _, _⟩ := hcell j (by omega)
        have e : ((List.range len).map F)[j]'(by rw [hlen]; exact hj) = F j := by simp
        rw [e, ← (hF j hj).1, ← (hF j hj).2.1, ← WideShapes.add_plain, Nat.add_assoc, ← WideShapes.add_plain]
        exact ⟨k0, k1⟩
      · intro f hf
        obtain ⟨i, hi, rfl⟩ := List.mem_map.1 hf
        exact (hF i (List.mem_range.1 hi)).2.2
end Go.Proofs.YtgldpdbdgjehkaaGreatDoor
