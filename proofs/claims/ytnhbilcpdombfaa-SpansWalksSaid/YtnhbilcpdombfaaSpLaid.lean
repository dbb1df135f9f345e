/- Spans that came in. -/
import Derived.Test.YtnhbilcpdombfaaSpBase
import Derived.Test.YtnhbilcpdombfaaRows
import Derived.ProofKit
import Derived.Carry
import Derived.Deep.SlicePairs
namespace Go.Proofs.Ytnhbilcpdombfaa
open Go.ChangeShapes Go.WideShapes Go.ChangeAt Go.RowKit Go.Lib

theorem own : ownKnob Try.prog.godebug = none := by kernel_rfl
theorem laidOut : laidOutB Try.prog = true := by kernel_rfl
theorem cellsSp : Try.prog.cellsOf 31 = 2 := by kernel_rfl
theorem cellsI : Try.prog.cellsOf 3 = 1 := by kernel_rfl
theorem open_sps {H : Type} {enc : TypeId × Value → H} {W : World} {a0 : Option Addr} {len cap fuel : Nat} {x : DataW H × List MemPlace}
    (hf : DataW.trod enc Try.prog W 0 (fun _ => true) true fuel 22 (Value.slice a0 len cap).cells.toList = some x) :
    ∃ l : List (Int × Int), l.length = len ∧ SpsAt W a0 l := by
  rcases Go.Deep.open_slice_pairs Try.underlying22 Try.underlying31 cellsSp rfl rfl cellsI cellsI hf with ⟨hcs, hx⟩ | ⟨a, len', cap', m, n, V0, V1, D0, D1, P0, P1, hcs, hb, hl, hm, hmm, hx, hcell⟩
  · simp [Value.cells] at hcs
    obtain ⟨rfl, rfl, rfl⟩ := hcs
    exact ⟨[], rfl, SpsAt.none_ _ _⟩
  · simp [Value.cells] at hcs
    obtain ⟨rfl, rfl, rfl⟩ := hcs
    simp only [if_true] at hmm
    subst hmm
    by_cases h0 : len = 0
    · subst h0
      exact ⟨[], rfl, SpsAt.none_ _ _⟩
    · obtain ⟨b, off, spot⟩ := a
      have hspot : spot = none := by simpa [Addr.add] using World.cell?_spot (hcell 0 (by omega)).1
      subst hspot
      have hbl : b < W.heap.size := World.block_lt_of_cell? W _ (hcell 0 (by omega)).1
      have each : ∀ i, i < len → ∃ f : Int × Int, V0 i = .int .i64 f.1 ∧ V1 i = .int .i64 f.2 ∧ Fits f := by
        intro i hi
        obtain ⟨_, _, g0, g1⟩ := hcell i (by omega)
        obtain ⟨n0, e0, _, wn0⟩ := DataW.trod_int Try.underlying3 g0
        obtain ⟨n1, e1, _, wn1⟩ := DataW.trod_int Try.underlying3 g1
        exact ⟨(n0, n1), by simpa using e0, by simpa using e1, by simpa [Lit.wf, IntKind.min, IntKind.max, IntKind.signed, IntKind.bits] using wn0, by simpa [Lit.wf, IntKind.min, IntKind.max, IntKind.signed, IntKind.bits] using wn1⟩
      obtain ⟨F, hF⟩ := Go.Deep.choose_lt each
      have hlen : ((List.range len).map F).length = len := by simp
      refine ⟨(List.range len).map F, hlen, by rw [hlen]; omega, ?_, fun _ => ⟨b, off, rfl, hbl, ?_⟩⟩
      · intro f hf
        obtain ⟨i, hi, rfl⟩ := List.mem_map.1 hf
        exact (hF i (List.mem_range.1 hi)).2.2
      · intro j hj
        rw [hlen] at hj
        obtain ⟨k0, k1, _, _⟩ := hcell j (by omega)
        have e : ((List.range len).map F)[j]'(by rw [hlen]; exact hj) = F j := by simp
        rw [e, ← (hF j hj).1, ← (hF j hj).2.1, ← WideShapes.add_plain, Nat.add_assoc, ← WideShapes.add_plain]
        exact ⟨k0, k1⟩
end Go.Proofs.Ytnhbilcpdombfaa
