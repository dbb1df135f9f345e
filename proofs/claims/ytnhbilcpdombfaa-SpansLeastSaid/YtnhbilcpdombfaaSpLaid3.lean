/- An array of two numbers, as it came in. -/
import Derived.Test.YtnhbilcpdombfaaSpLaid2
import Derived.OpenShut
namespace Go.Proofs.Ytnhbilcpdombfaa
open Go.ChangeShapes Go.WideShapes Go.ChangeAt Go.RowKit

theorem open_arr2 {H : Type} {enc : TypeId × Value → H} {W : World} {base : Nat} {v : Value} {d : DataW H} {pl : List MemPlace}
    (hv : Value.okWide Try.prog W .any base 58 v) (h : DataW.Trod enc Try.prog W 0 (fun _ => true) true 58 v d pl) :
    ∃ x y, v = .agg #[.int .i64 x, .int .i64 y] := by
  have hu := Try.underlying58
  simp only [Value.okWide, hu] at hv
  obtain ⟨cs, rfl, hsz, _⟩ := hv
  have hc : Try.prog.cellsOf 58 = 2 := by kernel_rfl
  obtain ⟨c0, c1, rfl⟩ := Joins.array2 (hsz.trans hc)
  obtain ⟨fuel, hf⟩ := h
  obtain ⟨xs, m, _, _, _, hlen, hi⟩ := DataW.trod_array hu hf
  have h1 : Try.prog.cellsOf 3 = 1 := by kernel_rfl
  have i0 := hi 0 (by omega)
  have i1 := hi 1 (by omega)
  rw [h1] at i0 i1
  simp [Value.cells] at i0 i1
  obtain ⟨y0, hy0⟩ : ∃ y0, xs[0]? = some y0 := ⟨xs[0]'(by omega), by simp [hlen]⟩
  obtain ⟨y1, hy1⟩ : ∃ y1, xs[1]? = some y1 := ⟨xs[1]'(by omega), by simp [hlen]⟩
  rw [hy0] at i0; rw [hy1] at i1
  obtain ⟨n, e0, _, _⟩ := DataW.trod_int Try.underlying3 i0
  obtain ⟨n2, e1, _, _⟩ := DataW.trod_int Try.underlying3 i1
  simp at e0 e1
  subst e0 e1
  exact ⟨n, n2, rfl⟩
end Go.Proofs.Ytnhbilcpdombfaa
