/- links: a state that came in. -/
import Derived.Test.YtmelcohfjonjfaaLcSlot
import Derived.Test.YtmelcohfjonjfaaLkLaid
import Derived.Deep.DeepHandedRow
namespace Go.Proofs.Ytmelcohfjonjfaa
open Go.ChangeShapes Go.WideShapes Go.ChangeAt Go.RowKit Go.Lib

theorem cellsInt : Try.prog.cellsOf 3 = 1 := by kernel_rfl
theorem cellsSl : Try.prog.cellsOf 29 = 1 := by kernel_rfl
theorem cellsSt : Try.prog.cellsOf 39 = 6 := by kernel_rfl
theorem open_slo {H : Type} {enc : TypeId × Value → H} {W : World} {v : Value} {fuel : Nat} {x : DataW H × List MemPlace}
    (hf : DataW.trod enc Try.prog W 0 (fun _ => true) true fuel 29 [v] = some x) : ∃ p n c f, v = .slice p n c ∧ SlO W p n f := by
  rcases open_ints Try.underlying29 Try.underlying3 cellsInt hf with ⟨hcs, hx⟩ | ⟨a, len, cap, zs, hcs, hb, hl, hm, hz, hx, hcell, hwz⟩
  · injection hcs with hv _
    exact ⟨none, 0, 0, fun _ => 0, hv, fun j hj => by omega⟩
  · injection hcs with hv _
    subst hv
    simp only [if_true] at hz
    refine ⟨some a, len, cap, fun j => zs.getD j 0, rfl, fun j hj => ?_⟩
    obtain ⟨b, off, spot⟩ := a
    have hspot : spot = none := by simpa [Addr.add] using World.cell?_spot (hcell 0 (by omega))
    subst hspot
    refine ⟨b, off, rfl, World.block_lt_of_cell? W _ (hcell 0 (by omega)), ?_⟩
    have h1 := hcell j (by omega)
    rw [← WideShapes.add_plain, h1]
theorem list6 {α : Type} : ∀ {l : List α}, l.length = 6 → ∃ a b c d e f, l = [a, b, c, d, e, f]
  | [a, b, c, d, e, f], _ => ⟨a, b, c, d, e, f, rfl⟩
set_option maxRecDepth 100000 in
theorem open_state {H : Type} {enc : TypeId × Value → H} {W : World} {base : Nat} {v : Value} {d : DataW H} {pl : List MemPlace}
    (hv : Value.okWide Try.prog W .any base 39 v) (h : DataW.Trod enc Try.prog W 0 (fun _ => true) true 39 v d pl) :
    ∃ (s : SP) (vv : Nat → Int) (F : LkF), v = s.val ∧ SPAt W s vv F := by
  obtain ⟨cs, rfl, hsz⟩ := okWide_struct Try.underlying39 hv
  obtain ⟨fuel, hf⟩ := h
  have hl : cs.toList.length = 6 := by rw [Array.length_toList]; exact hsz.trans cellsSt
  have hf' : DataW.trod enc Try.prog W 0 (fun _ => true) true fuel 39 cs.toList = some (d, pl) := by simpa [Value.cells] using hf
  obtain ⟨xs, k, hk, hxy, _, hxl, hg⟩ := DataW.trod_struct Try.underlying39 hf'
  obtain ⟨y0, y1, y2, y3, y4, y5, rfl⟩ := list6 (show xs.length = 6 from hxl)
  obtain ⟨v0, v1, v2, v3, v4, v5, e⟩ := list6 hl
  rw [e] at hg
  have g0 := hg 0 _ rfl
  have g1 := hg 1 _ rfl
  have g2 := hg 2 _ rfl
  have g3 := hg 3 _ rfl
  have g4 := hg 4 _ rfl
  have g5 := hg 5 _ rfl
  simp [cellsSl] at g0 g1 g2 g3 g4 g5
  obtain ⟨p0, n0, c0, f0, rfl, h0⟩ := open_slo g0
  obtain ⟨p1, n1, c1, f1, rfl, h1⟩ := open_slo g1
  obtain ⟨p2, n2, c2, f2, rfl, h2⟩ := open_slo g2
  obtain ⟨p3, n3, c3, f3, rfl, h3⟩ := open_slo g3
  obtain ⟨p4, n4, c4, f4, rfl, h4⟩ := open_slo g4
  obtain ⟨p5, n5, c5, f5, rfl, h5⟩ := open_slo g5
  refine ⟨⟨p0, p1, p2, p3, p4, p5, n0, n1, n2, n3, n4, n5, c0, c1, c2, c3, c4, c5⟩, f0, ⟨f1, f2, f3, f4, f5⟩, ?_, ⟨h0, h1, h2, h3, h4, h5⟩⟩
  unfold SP.val SP.cells
  congr 1
  apply Array.ext'
  rw [e]
end Go.Proofs.Ytmelcohfjonjfaa
