/- links: what an argument of three bytes is. -/
import Derived.Test.YtmelcohfjonjfaaLjLaid
import Derived.Test.YtmelcohfjonjfaaLkBase
namespace Go.Proofs.Ytmelcohfjonjfaa
open Go.RowKit Go.Shelf

theorem array3of {cs : Array Value} (h : cs.size = 3) : ∃ a b c, cs = #[a, b, c] := by
  obtain ⟨l⟩ := cs
  match l, h with
  | [a, b, c], _ => exact ⟨a, b, c, rfl⟩
set_option maxRecDepth 100000 in
theorem open_arr8x3 {H : Type} {enc : TypeId × Value → H} {W : World} {base : Nat} {v : Value} {d : DataW H} {pl : List MemPlace}
    (hv : Value.okWide Try.prog W .any base 55 v) (h : DataW.Trod enc Try.prog W 0 (fun _ => true) true 55 v d pl) :
    ∃ x y z : Nat, v = .agg #[.int .u8 x, .int .u8 y, .int .u8 z] ∧ x ≤ 255 ∧ y ≤ 255 ∧ z ≤ 255 := by
  have hu := Try.underlying55
  simp only [Value.okWide, hu] at hv
  obtain ⟨cs, rfl, hsz, _⟩ := hv
  have hc : Try.prog.cellsOf 55 = 3 := by kernel_rfl
  obtain ⟨c0, c1, c2, rfl⟩ := array3of (hsz.trans hc)
  obtain ⟨fuel, hf⟩ := h
  obtain ⟨xs, m, _, _, _, hlen, hi⟩ := DataW.trod_array hu hf
  have h1 : Try.prog.cellsOf 5 = 1 := by kernel_rfl
  have i0 := hi 0 (by omega)
  have i1 := hi 1 (by omega)
  have i2 := hi 2 (by omega)
  rw [h1] at i0 i1 i2
  simp [Value.cells] at i0 i1 i2
  obtain ⟨y0, hy0⟩ : ∃ y0, xs[0]? = some y0 := ⟨xs[0]'(by omega), by simp [hlen]⟩
  obtain ⟨y1, hy1⟩ : ∃ y1, xs[1]? = some y1 := ⟨xs[1]'(by omega), by simp [hlen]⟩
  obtain ⟨y2, hy2⟩ : ∃ y2, xs[2]? = some y2 := ⟨xs[2]'(by omega), by simp [hlen]⟩
  rw [hy0] at i0; rw [hy1] at i1; rw [hy2] at i2
  obtain ⟨n, e0, _, w0⟩ := DataW.trod_int Try.underlying5 i0
  obtain ⟨n2, e1, _, w1⟩ := DataW.trod_int Try.underlying5 i1
  obtain ⟨n3, e2, _, w2⟩ := DataW.trod_int Try.underlying5 i2
  simp at e0 e1 e2
  subst e0 e1 e2
  have a0 : 0 ≤ n ∧ n ≤ 255 := by simpa [Lit.wf, IntKind.min, IntKind.max, IntKind.signed, IntKind.bits] using w0
  have a1 : 0 ≤ n2 ∧ n2 ≤ 255 := by simpa [Lit.wf, IntKind.min, IntKind.max, IntKind.signed, IntKind.bits] using w1
  have a2 : 0 ≤ n3 ∧ n3 ≤ 255 := by simpa [Lit.wf, IntKind.min, IntKind.max, IntKind.signed, IntKind.bits] using w2
  obtain ⟨x, rfl⟩ : ∃ x : Nat, n = (x : Int) := ⟨n.toNat, by omega⟩
  obtain ⟨y, rfl⟩ : ∃ y : Nat, n2 = (y : Int) := ⟨n2.toNat, by omega⟩
  obtain ⟨z, rfl⟩ : ∃ z : Nat, n3 = (z : Int) := ⟨n3.toNat, by omega⟩
  exact ⟨x, y, z, rfl, by omega, by omega, by omega⟩
end Go.Proofs.Ytmelcohfjonjfaa
