/- links: three. -/
import Derived.Test.YtnbniflljbbpbaaLkSame
namespace Go.Proofs.Ytnbniflljbbpbaa
open Go.RowKit

/-- A pool in memory that a function has made. -/
structure NewQ (W W' : World) (B n m : Nat) (D : LkB) (v : Nat → Int) (of : Nat → List Nat) : Prop where
  pool : PoolS W' B n m D v of
  old : Below W.heap.size W W'
  new : W.heap.size ≤ B ∧ W.heap.size ≤ D.v ∧ W.heap.size ≤ D.l ∧ W.heap.size ≤ D.n ∧ W.heap.size ≤ D.p ∧ W.heap.size ≤ D.f ∧ W.heap.size ≤ D.a
theorem NewS.q {W W' : World} {B n m : Nat} {D : LkB} {v : Nat → Int} {of : Nat → List Nat} (h : NewS W W' B n m D v of) : NewQ W W' B n m D v of := by
  obtain ⟨F, p, r⟩ := h
  exact ⟨⟨F, p.pool, r⟩, p.old, p.new⟩
theorem NewQ.below {W V W' : World} {B n m : Nat} {D : LkB} {v : Nat → Int} {of : Nat → List Nat} (h : NewQ W V B n m D v of) (hb : BelowS D.S V.heap.size V W') : Below W.heap.size W W' := by
  have hs := h.old.size
  refine ⟨hb.os.trans h.old.os, hb.tape.trans h.old.tape, hb.output.trans h.old.output, Nat.le_trans hs hb.size, fun k hk => (hb.block k (by omega) ?_).trans (h.old.block k hk)⟩
  obtain ⟨n1, n2, n3, n4, n5, n6, n7⟩ := h.new
  rintro (e | e | e | e | e | e) <;> omega
theorem NewQ.step {W V W' : World} {B n m : Nat} {D : LkB} {v v' : Nat → Int} {of of' : Nat → List Nat} (h : NewQ W V B n m D v of) (p : PoolS W' B n m D v' of') (hb : BelowS D.S V.heap.size V W') : NewQ W W' B n m D v' of' :=
  ⟨p, h.below hb, h.new⟩
theorem NewQ.keep {W V W' : World} {B n m : Nat} {D : LkB} {v : Nat → Int} {of : Nat → List Nat} (h : NewQ W V B n m D v of) (hb : Below V.heap.size V W') : NewQ W W' B n m D v of :=
  ⟨h.pool.below hb, h.old.trans (hb.mono h.old.size), h.new⟩
def t1X : LkX := pushX 3 2 (fun _ => 0) (fun _ => []) 0 7 false
def t2X : LkX := pushX 3 2 t1X.v t1X.of 0 8 false
def t3X : LkX := afterX 3 2 t2X.v t2X.of 0 9
theorem t1r : t1X.r = .tuple #[.int .i64 0, .int .i64 0] := by kernel_rfl
theorem t2r : t2X.r = .tuple #[.int .i64 1, .int .i64 0] := by kernel_rfl
theorem t3r : t3X.r = .tuple #[.int .i64 2, .int .i64 0] := by kernel_rfl
def ThreePost (W : World) (e : Ending) (W' : World) : Prop := ∃ B D, e = .returned (.pointer (some ⟨B, 0, none⟩)) ∧ NewQ W W' B 3 2 D t3X.v t3X.of
set_option maxHeartbeats 4000000 in
set_option maxRecDepth 100000 in
theorem three_any (W : World) : Calls Try.prog 36 #[] W (ThreePost W) := by
  have CN := Lib.hid (show Calls Try.prog 10 #[.int .i64 3, .int .i64 2] W (NewPost 3 2 (fun _ => 0) (fun _ => []) W) from New_ok (n := 3) (m := 2) (by omega) (by omega))
  go_enter Try.func36, Try.ntmps36
  go_wp2_with fail
  refine CN.out.mono ?_
  rintro e w1 ⟨B, D, rfl, P⟩
  have Q1 := P.q
  have C1 := Lib.hid (push_any Q1.pool 0 7 false)
  have H1 := Lib.hid Q1
  clear P Q1 CN
  go_wp2_with fail
  refine C1.out.mono ?_
  rintro e w2 ⟨he, P, Bw⟩
  have Q2 := H1.out.step P Bw
  have C2 := Lib.hid (push_any Q2.pool 0 8 false)
  have H2 := Lib.hid Q2
  have er := he.trans (congrArg Ending.returned t1r)
  subst er
  clear P Q2 C1 H1 he Bw
  go_wp2_with fail
  refine C2.out.mono ?_
  rintro e w3 ⟨he, P, Bw⟩
  have Q3 := H2.out.step P Bw
  have C3 := Lib.hid (after_any Q3.pool 0 9)
  have H3 := Lib.hid Q3
  have er := he.trans (congrArg Ending.returned t2r)
  subst er
  clear P Q3 C2 H2 he Bw
  go_wp2_with fail
  refine C3.out.mono ?_
  rintro e w4 ⟨he, P, Bw⟩
  have H4 := Lib.hid (H3.out.step P Bw)
  have er := he.trans (congrArg Ending.returned t3r)
  subst er
  clear P C3 H3 he Bw
  go_wp2_with fail
  go_ret
  exact ⟨B, D, rfl, H4.out⟩
end Go.Proofs.Ytnbniflljbbpbaa
