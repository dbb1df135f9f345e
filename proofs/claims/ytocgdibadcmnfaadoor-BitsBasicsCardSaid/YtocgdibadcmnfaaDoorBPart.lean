/- A part of bits that came in. -/
import Derived.Test.YtocgdibadcmnfaaDoorBLaid
namespace Go.Proofs.YtocgdibadcmnfaaDoor
open Go.ChangeShapes Go.WideShapes Go.ChangeAt Go.RowKit Go.Lib
theorem open_part {H : Type} {enc : TypeId × Value → H} {W : World} {base : Nat} {v : Value} {d : DataW H} {pl : List MemPlace}
    (hv : Value.okWide Tryd.prog W .any base 26 v) (h : DataW.Trod enc Tryd.prog W 0 (fun _ => true) true 26 v d pl) :
    ∃ fr tn on, v = .agg #[.int .i64 fr, .int .i64 tn, .bool on] ∧ (-9223372036854775808 ≤ fr ∧ fr ≤ 9223372036854775807) ∧ (-9223372036854775808 ≤ tn ∧ tn ≤ 9223372036854775807) := by
  obtain ⟨c0, c1, c2, y0, y1, y2, m, rfl, rfl, rfl, hy0, hy1, hy2⟩ := Joins.open_agg3 Tryd.underlying26 (by kernel_rfl) (by kernel_rfl) hv h
  obtain ⟨n, e0, rfl, wn⟩ := DataW.trod_int Tryd.underlying3 hy0
  obtain ⟨n2, e1, rfl, wn2⟩ := DataW.trod_int Tryd.underlying3 hy1
  obtain ⟨b, e2, rfl⟩ := DataW.trod_bool Tryd.underlying4 hy2
  simp at e0 e1 e2
  subst e0 e1 e2
  exact ⟨n, n2, b, rfl, by simpa [Lit.wf, IntKind.min, IntKind.max, IntKind.signed, IntKind.bits] using wn, by simpa [Lit.wf, IntKind.min, IntKind.max, IntKind.signed, IntKind.bits] using wn2⟩
end Go.Proofs.YtocgdibadcmnfaaDoor
