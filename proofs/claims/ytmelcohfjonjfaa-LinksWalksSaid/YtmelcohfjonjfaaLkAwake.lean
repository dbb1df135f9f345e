/- links: three. links: awake. -/
import Derived.Test.YtmelcohfjonjfaaLkSame
namespace Go.Proofs.Ytmelcohfjonjfaa
open Go.RowKit

/-- A pool in memory that a function has made. -/
structure NewQ (W W' : World) (B n m : Nat) (D : LkB) (v : Nat → Int) (of : Nat → List Nat) : Prop where
  pool : PoolS W' B n m D v of
  old : Below W.heap.size W W'
  new : W.heap.size ≤ B ∧ W.heap.size ≤ D.v ∧ W.heap.size ≤ D.l ∧ W.heap.size ≤ D.n ∧ W.heap.size ≤ D.p ∧ W.heap.size ≤ D.f ∧ W.heap.size ≤ D.a
theorem NewS.q {W W' : World} {B n m : Nat} {D : LkB} {v : Nat → Int} {of : Nat → List Nat} (h : NewS W W' B n m D v of) : NewQ W W' B n m D v of := by
  obtain ⟨F, p, r⟩ := h
  exact ⟨⟨F, p.pool, r⟩, p.old, p.new⟩
theorem NewQ.below {W V W' : World} {B n m : Nat} {D : LkB} {v : Nat → Int} {of : Nat → List Nat} (h : NewQ W V B n m D v of) (hb : BelowS D.S V.heap.size V W') : Below W.heap.size W W' := by
  have hs := h.old.size
  refine ⟨hb.os.trans h.old.os, hb.tape.trans h.old.tape, hb.output.trans h.old.output, Nat.le_trans hs hb.size, fun k hk => (hb.block k (by omega) ?_).trans (h.old.block k hk)⟩
  obtain ⟨n1, n2, n3, n4, n5, n6, n7⟩ := h.new
  rintro (e | e | e | e | e | e) <;> omega
theorem NewQ.step {W V W' : World} {B n m : Nat} {D : LkB} {v v' : Nat → Int} {of of' : Nat → List Nat} (h : NewQ W V B n m D v of) (p : PoolS W' B n m D v' of') (hb : BelowS D.S V.heap.size V W') : NewQ W W' B n m D v' of' :=
  ⟨p, h.below hb, h.new⟩
theorem NewQ.keep {W V W' : World} {B n m : Nat} {D : LkB} {v : Nat → Int} {of : Nat → List Nat} (h : NewQ W V B n m D v of) (hb : Below V.heap.size V W') : NewQ W W' B n m D v of :=
  ⟨h.pool.below hb, h.old.trans (hb.mono h.old.size), h.new⟩
def t1X : LkX := pushX 3 2 (fun _ => 0) (fun _ => []) 0 7 false
def t2X : LkX := pushX 3 2 t1X.v t1X.of 0 8 false
def t3X : LkX := afterX 3 2 t2X.v t2X.of 0 9
theorem t1r : t1X.r = .tuple #[.int .i64 0, .int .i64 0] := by kernel_rfl
theorem t2r : t2X.r = .tuple #[.int .i64 1, .int .i64 0] := by kernel_rfl
theorem t3r : t3X.r = .tuple #[.int .i64 2, .int .i64 0] := by kernel_rfl
def ThreePost (W : World) (e : Ending) (W' : World) : Prop := ∃ B D, e = .returned (.pointer (some ⟨B, 0, none⟩)) ∧ NewQ W W' B 3 2 D t3X.v t3X.of
set_option maxHeartbeats 4000000 in
set_option maxRecDepth 100000 in
theorem three_any (W : World) : Calls Try.prog 36 #[] W (ThreePost W) := by
  have CN := Lib.hid (show Calls Try.prog 10 #[.int .i64 3, .int .i64 2] W (NewPost 3 2 (fun _ => 0) (fun _ => []) W) from New_ok (n := 3) (m := 2) (by omega) (by omega))
  go_enter Try.func36, Try.ntmps36
  go_wp2_with fail
  refine CN.out.mono ?_
  rintro e w1 ⟨B, D, rfl, P⟩
  have Q1 := P.q
  have C1 := Lib.hid (push_any Q1.pool 0 7 false)
  have H1 := Lib.hid Q1
  clear P Q1 CN
  go_wp2_with fail
  refine C1.out.mono ?_
  rintro e w2 ⟨he, P, Bw⟩
  have Q2 := H1.out.step P Bw
  have C2 := Lib.hid (push_any Q2.pool 0 8 false)
  have H2 := Lib.hid Q2
  have er := he.trans (congrArg Ending.returned t1r)
  subst er
  clear P Q2 C1 H1 he Bw
  go_wp2_with fail
  refine C2.out.mono ?_
  rintro e w3 ⟨he, P, Bw⟩
  have Q3 := H2.out.step P Bw
  have C3 := Lib.hid (after_any Q3.pool 0 9)
  have H3 := Lib.hid Q3
  have er := he.trans (congrArg Ending.returned t2r)
  subst er
  clear P Q3 C2 H2 he Bw
  go_wp2_with fail
  refine C3.out.mono ?_
  rintro e w4 ⟨he, P, Bw⟩
  have H4 := Lib.hid (H3.out.step P Bw)
  have er := he.trans (congrArg Ending.returned t3r)
  subst er
  clear P C3 H3 he Bw
  go_wp2_with fail
  go_ret
  exact ⟨B, D, rfl, H4.out⟩
end Go.Proofs.Ytmelcohfjonjfaa
namespace Go.Proofs.Ytmelcohfjonjfaa
open Go.RowKit

def a4X : LkX := pushX 3 2 t3X.v t3X.of 1 5 false
def a5X : LkX := takeX 3 2 a4X.v a4X.of 0
def a6X : LkX := pushX 3 2 a5X.v a5X.of 1 4 true
theorem a4r : a4X.r = .tuple #[.int .i64 0, .int .i64 5] := by kernel_rfl
theorem a5r : a5X.r = .tuple #[.int .i64 7, .int .i64 0] := by kernel_rfl
theorem a6r : a6X.r = .tuple #[.int .i64 0, .int .i64 0] := by kernel_rfl
theorem a6v : a6X.v 0 = 4 ∧ a6X.v 1 = 8 ∧ a6X.v 2 = 9 := ⟨by kernel_rfl, by kernel_rfl, by kernel_rfl⟩
theorem a6of : a6X.of 0 = [2, 1] ∧ a6X.of 1 = [0] := ⟨by kernel_rfl, by kernel_rfl⟩
/-- Where six rows of three and two numbers lie that hold a state: what they hold. -/
theorem st_lit {W : World} {g0 g1 g2 g3 g4 g5 c0 c1 c2 c3 c4 c5 : Nat} {t : TypeId} {v : Nat → Int} {F : LkF} {x0 x1 x2 l0 l1 l2 n0 n1 n2 p0 p1 p2 f0 f1 a0 a1 : Int}
    (h0 : W.heap[g0]? = some (.cells #[.int .i64 x0, .int .i64 x1, .int .i64 x2] t (0, 0))) (h1 : W.heap[g1]? = some (.cells #[.int .i64 l0, .int .i64 l1, .int .i64 l2] t (0, 0)))
    (h2 : W.heap[g2]? = some (.cells #[.int .i64 n0, .int .i64 n1, .int .i64 n2] t (0, 0))) (h3 : W.heap[g3]? = some (.cells #[.int .i64 p0, .int .i64 p1, .int .i64 p2] t (0, 0)))
    (h4 : W.heap[g4]? = some (.cells #[.int .i64 f0, .int .i64 f1] t (0, 0))) (h5 : W.heap[g5]? = some (.cells #[.int .i64 a0, .int .i64 a1] t (0, 0)))
    (ex : v 0 = x0 ∧ v 1 = x1 ∧ v 2 = x2) (el : F.list 0 = l0 ∧ F.list 1 = l1 ∧ F.list 2 = l2) (en : F.next 0 = n0 ∧ F.next 1 = n1 ∧ F.next 2 = n2) (ep : F.prev 0 = p0 ∧ F.prev 1 = p1 ∧ F.prev 2 = p2)
    (ef : F.first 0 = f0 ∧ F.first 1 = f1) (ea : F.last 0 = a0 ∧ F.last 1 = a1) :
    StF W (.agg #[.slice (some ⟨g0, 0, none⟩) 3 c0, .slice (some ⟨g1, 0, none⟩) 3 c1, .slice (some ⟨g2, 0, none⟩) 3 c2, .slice (some ⟨g3, 0, none⟩) 3 c3, .slice (some ⟨g4, 0, none⟩) 2 c4, .slice (some ⟨g5, 0, none⟩) 2 c5]) 3 2 v F := by
  have three : ∀ {g : Nat} {y0 y1 y2 : Int} {f : Nat → Int} {c : Nat}, W.heap[g]? = some (.cells #[.int .i64 y0, .int .i64 y1, .int .i64 y2] t (0, 0)) → f 0 = y0 ∧ f 1 = y1 ∧ f 2 = y2 → SlF W (.slice (some ⟨g, 0, none⟩) 3 c) 3 f := by
    intro g y0 y1 y2 f c h ⟨e0, e1, e2⟩
    refine ⟨_, _, rfl, fun j hj => ⟨g, rfl, (Array.getElem?_eq_some_iff.1 h).1, ?_⟩⟩
    match j, hj with
    | 0, _ => rw [e0]; exact row_cell h rfl
    | 1, _ => rw [e1]; exact row_cell h rfl
    | 2, _ => rw [e2]; exact row_cell h rfl
  have two : ∀ {g : Nat} {y0 y1 : Int} {f : Nat → Int} {c : Nat}, W.heap[g]? = some (.cells #[.int .i64 y0, .int .i64 y1] t (0, 0)) → f 0 = y0 ∧ f 1 = y1 → SlF W (.slice (some ⟨g, 0, none⟩) 2 c) 2 f := by
    intro g y0 y1 f c h ⟨e0, e1⟩
    refine ⟨_, _, rfl, fun j hj => ⟨g, rfl, (Array.getElem?_eq_some_iff.1 h).1, ?_⟩⟩
    match j, hj with
    | 0, _ => rw [e0]; exact row_cell h rfl
    | 1, _ => rw [e1]; exact row_cell h rfl
  exact ⟨⟨_, _, _, _, _, _, rfl, three h0 ex, three h1 el, three h2 en, three h3 ep, two h4 ef, two h5 ea⟩⟩
/-- The links of the example's lists. -/
theorem a6F {F : LkF} (h : Rep 3 2 a6X.of F) : (F.list 0 = 1 ∧ F.list 1 = 0 ∧ F.list 2 = 0) ∧ (F.next 0 = -1 ∧ F.next 1 = -1 ∧ F.next 2 = 1) ∧ (F.prev 0 = -1 ∧ F.prev 1 = 2 ∧ F.prev 2 = -1) ∧ (F.first 0 = 2 ∧ F.first 1 = 0) ∧ (F.last 0 = 1 ∧ F.last 1 = 0) := by
  obtain ⟨e0, e1⟩ := a6of
  obtain ⟨u1, u2, u3⟩ := h.used 1 (by omega) 0 (by rw [e1]; simp)
  obtain ⟨v1, v2, v3⟩ := h.used 0 (by omega) 1 (by rw [e0]; simp)
  obtain ⟨w1, w2, w3⟩ := h.used 0 (by omega) 2 (by rw [e0]; simp)
  obtain ⟨f0, l0⟩ := h.ends 0 (by omega)
  obtain ⟨f1, l1⟩ := h.ends 1 (by omega)
  rw [e0] at v2 v3 w2 w3 f0 l0
  rw [e1] at u2 u3 f1 l1
  exact ⟨⟨u1, v1, w1⟩, ⟨u2, v2, w2⟩, ⟨u3, v3, w3⟩, ⟨f0, f1⟩, l0, l1⟩
theorem alloc7 (w : World) (o0 o1 o2 o3 o4 o5 o6 : Obj) : (((((((w.alloc o0).alloc o1).alloc o2).alloc o3).alloc o4).alloc o5).alloc o6).heap[w.heap.size]? = some o0 ∧ (((((((w.alloc o0).alloc o1).alloc o2).alloc o3).alloc o4).alloc o5).alloc o6).heap[w.heap.size + 1]? = some o1 ∧ (((((((w.alloc o0).alloc o1).alloc o2).alloc o3).alloc o4).alloc o5).alloc o6).heap[w.heap.size + 1 + 1]? = some o2 ∧ (((((((w.alloc o0).alloc o1).alloc o2).alloc o3).alloc o4).alloc o5).alloc o6).heap[w.heap.size + 1 + 1 + 1]? = some o3 ∧ (((((((w.alloc o0).alloc o1).alloc o2).alloc o3).alloc o4).alloc o5).alloc o6).heap[w.heap.size + 1 + 1 + 1 + 1]? = some o4 ∧ (((((((w.alloc o0).alloc o1).alloc o2).alloc o3).alloc o4).alloc o5).alloc o6).heap[w.heap.size + 1 + 1 + 1 + 1 + 1]? = some o5 ∧ (((((((w.alloc o0).alloc o1).alloc o2).alloc o3).alloc o4).alloc o5).alloc o6).heap[w.heap.size + 1 + 1 + 1 + 1 + 1 + 1]? = some o6 ∧ Below w.heap.size w (((((((w.alloc o0).alloc o1).alloc o2).alloc o3).alloc o4).alloc o5).alloc o6) := by
  refine ⟨?_, ?_, ?_, ?_, ?_, ?_, ?_, ?_⟩
  · show (((((((w.heap.push o0).push o1).push o2).push o3).push o4).push o5).push o6)[_]? = _
    simp only [Array.getElem?_push, Array.size_push]
    repeat rw [if_neg (by omega)]
    first | exact if_pos trivial | exact if_pos rfl | rfl
  · show (((((((w.heap.push o0).push o1).push o2).push o3).push o4).push o5).push o6)[_]? = _
    simp only [Array.getElem?_push, Array.size_push]
    repeat rw [if_neg (by omega)]
    first | exact if_pos trivial | exact if_pos rfl | rfl
  · show (((((((w.heap.push o0).push o1).push o2).push o3).push o4).push o5).push o6)[_]? = _
    simp only [Array.getElem?_push, Array.size_push]
    repeat rw [if_neg (by omega)]
    first | exact if_pos trivial | exact if_pos rfl | rfl
  · show (((((((w.heap.push o0).push o1).push o2).push o3).push o4).push o5).push o6)[_]? = _
    simp only [Array.getElem?_push, Array.size_push]
    repeat rw [if_neg (by omega)]
    first | exact if_pos trivial | exact if_pos rfl | rfl
  · show (((((((w.heap.push o0).push o1).push o2).push o3).push o4).push o5).push o6)[_]? = _
    simp only [Array.getElem?_push, Array.size_push]
    repeat rw [if_neg (by omega)]
    first | exact if_pos trivial | exact if_pos rfl | rfl
  · show (((((((w.heap.push o0).push o1).push o2).push o3).push o4).push o5).push o6)[_]? = _
    simp only [Array.getElem?_push, Array.size_push]
    repeat rw [if_neg (by omega)]
    first | exact if_pos trivial | exact if_pos rfl | rfl
  · show (((((((w.heap.push o0).push o1).push o2).push o3).push o4).push o5).push o6)[_]? = _
    simp only [Array.getElem?_push, Array.size_push]
    repeat rw [if_neg (by omega)]
    first | exact if_pos trivial | exact if_pos rfl | rfl
  · refine ⟨rfl, rfl, rfl, ?_, fun k hk => ?_⟩
    · show w.heap.size ≤ (((((((w.heap.push o0).push o1).push o2).push o3).push o4).push o5).push o6).size
      simp; omega
    · show (((((((w.heap.push o0).push o1).push o2).push o3).push o4).push o5).push o6)[k]? = _
      simp only [Array.getElem?_push, Array.size_push]
      rw [if_neg (by omega), if_neg (by omega), if_neg (by omega), if_neg (by omega), if_neg (by omega), if_neg (by omega), if_neg (by omega)]
def WantS (h : Nat) (W : World) : Prop := W.cell? ⟨h + 1 + 1 + 1 + 1 + 1 + 1, 0, none⟩ = some (.slice (some ⟨h, 0, none⟩) 3 3) ∧ W.cell? ⟨h + 1 + 1 + 1 + 1 + 1 + 1, 1, none⟩ = some (.slice (some ⟨h + 1, 0, none⟩) 3 3) ∧ W.cell? ⟨h + 1 + 1 + 1 + 1 + 1 + 1, 2, none⟩ = some (.slice (some ⟨h + 1 + 1, 0, none⟩) 3 3) ∧ W.cell? ⟨h + 1 + 1 + 1 + 1 + 1 + 1, 3, none⟩ = some (.slice (some ⟨h + 1 + 1 + 1, 0, none⟩) 3 3) ∧ W.cell? ⟨h + 1 + 1 + 1 + 1 + 1 + 1, 4, none⟩ = some (.slice (some ⟨h + 1 + 1 + 1 + 1, 0, none⟩) 2 2) ∧ W.cell? ⟨h + 1 + 1 + 1 + 1 + 1 + 1, 5, none⟩ = some (.slice (some ⟨h + 1 + 1 + 1 + 1 + 1, 0, none⟩) 2 2)
theorem keepW {h : Nat} {W W' : World} (k : WantS h W) (hb : Below W.heap.size W W') : WantS h W' := by
  unfold WantS at k ⊢
  obtain ⟨a0, a1, a2, a3, a4, a5⟩ := k
  have h0 := World.block_lt_of_cell? _ _ a0
  have e : ∀ j, W'.cell? ⟨h + 1 + 1 + 1 + 1 + 1 + 1, j, none⟩ = W.cell? ⟨h + 1 + 1 + 1 + 1 + 1 + 1, j, none⟩ := fun j => hb.cell h0
  simp only [e]
  exact ⟨a0, a1, a2, a3, a4, a5⟩
set_option maxHeartbeats 4000000 in
set_option maxRecDepth 100000 in
theorem awake_any (W : World) : Calls Try.prog 9 #[] W (TruePost W) := by
  have CT := Lib.hid (three_any W)
  go_enter Try.func9, Try.ntmps9
  go_wp2_with fail
  refine CT.out.mono ?_
  rintro e w3 ⟨B, D, rfl, Q3⟩
  have C4 := Lib.hid (push_any Q3.pool 1 5 false)
  have H3 := Lib.hid Q3
  clear Q3 CT
  go_wp2_with fail
  refine C4.out.mono ?_
  rintro e w4 ⟨he, P, Bw⟩
  have Q4 := H3.out.step P Bw
  have C5 := Lib.hid (take_any Q4.pool 0)
  have H4 := Lib.hid Q4
  have er := he.trans (congrArg Ending.returned a4r)
  subst er
  clear P Q4 C4 H3 he Bw
  go_wp2_with fail
  refine C5.out.mono ?_
  rintro e w5 ⟨he, P, Bw⟩
  have Q5 := H4.out.step P Bw
  have C6 := Lib.hid (push_any Q5.pool 1 4 true)
  have H5 := Lib.hid Q5
  have er := he.trans (congrArg Ending.returned a5r)
  subst er
  clear P Q5 C5 H4 he Bw
  go_wp2_with fail
  refine C6.out.mono ?_
  rintro e w6 ⟨he, P, Bw⟩
  have H6 := Lib.hid (H5.out.step P Bw)
  have er := he.trans (congrArg Ending.returned a6r)
  subst er
  clear P C6 H5 he Bw
  go_wp2_with fail
  obtain ⟨k0, k1, k2, k3, k4, k5, k6, kB⟩ := alloc7 w6 (.cells #[.int .i64 4, .int .i64 8, .int .i64 9] 3) (.cells #[.int .i64 1, .int .i64 0, .int .i64 0] 3) (.cells #[.int .i64 (-1), .int .i64 (-1), .int .i64 1] 3) (.cells #[.int .i64 (-1), .int .i64 2, .int .i64 (-1)] 3) (.cells #[.int .i64 2, .int .i64 0] 3) (.cells #[.int .i64 1, .int .i64 0] 3) (.cells #[.slice (some ⟨w6.heap.size, 0, none⟩) 3 3, .slice (some ⟨w6.heap.size + 1, 0, none⟩) 3 3, .slice (some ⟨w6.heap.size + 1 + 1, 0, none⟩) 3 3, .slice (some ⟨w6.heap.size + 1 + 1 + 1, 0, none⟩) 3 3, .slice (some ⟨w6.heap.size + 1 + 1 + 1 + 1, 0, none⟩) 2 2, .slice (some ⟨w6.heap.size + 1 + 1 + 1 + 1 + 1, 0, none⟩) 2 2] 39)
  generalize (((((((w6.alloc (.cells #[.int .i64 4, .int .i64 8, .int .i64 9] 3)).alloc (.cells #[.int .i64 1, .int .i64 0, .int .i64 0] 3)).alloc (.cells #[.int .i64 (-1), .int .i64 (-1), .int .i64 1] 3)).alloc (.cells #[.int .i64 (-1), .int .i64 2, .int .i64 (-1)] 3)).alloc (.cells #[.int .i64 2, .int .i64 0] 3)).alloc (.cells #[.int .i64 1, .int .i64 0] 3)).alloc (.cells #[.slice (some ⟨w6.heap.size, 0, none⟩) 3 3, .slice (some ⟨w6.heap.size + 1, 0, none⟩) 3 3, .slice (some ⟨w6.heap.size + 1 + 1, 0, none⟩) 3 3, .slice (some ⟨w6.heap.size + 1 + 1 + 1, 0, none⟩) 3 3, .slice (some ⟨w6.heap.size + 1 + 1 + 1 + 1, 0, none⟩) 2 2, .slice (some ⟨w6.heap.size + 1 + 1 + 1 + 1 + 1, 0, none⟩) 2 2] 39)) = W8 at *
  have s0 : WantS w6.heap.size W8.drew := ⟨row_cell (W := W8.drew) k6 rfl, row_cell (W := W8.drew) k6 rfl, row_cell (W := W8.drew) k6 rfl, row_cell (W := W8.drew) k6 rfl, row_cell (W := W8.drew) k6 rfl, row_cell (W := W8.drew) k6 rfl⟩
  have Q8 := (show NewQ W w6 B 3 2 D a6X.v a6X.of from H6.out).keep kB
  have CS := Lib.hid (fun V (hb : Below W8.heap.size W8 V) => save_any (Q8.keep hb).pool)
  have CM := Lib.hid (fun V z (hb : Below W8.heap.size W8 V) D' F (hz : NewRows V z 3 2 D' a6X.v F) (hF : Rep 3 2 a6X.of F) => by
    obtain ⟨f1, f2, f3, f4, f5⟩ := a6F hF
    exact same_any hz.rows.st ((st_lit (c0 := 3) (c1 := 3) (c2 := 3) (c3 := 3) (c4 := 2) (c5 := 2) k0 k1 k2 k3 k4 k5 a6v f1 f2 f3 f4 f5).below (hb.trans (hz.old.mono hb.size))) (by omega) (by omega))
  have HB := Lib.hid ((Below.refl W8.heap.size W8).drew)
  have H8 := Lib.hid Q8.old
  have KEEP : Hid (∀ {A A' : World}, WantS w6.heap.size A → Below A.heap.size A A' → WantS w6.heap.size A') := Lib.hid (fun h hb => keepW h hb)
  clear Q8 k0 k1 k2 k3 k4 k5 k6 kB H6
  generalize w6.heap.size = h at *
  unfold WantS at s0 KEEP
  go_region_held3 (fun Wx => Wx.cell? ⟨h + 1 + 1 + 1 + 1 + 1 + 1, 0, none⟩ = some (.slice (some ⟨h, 0, none⟩) 3 3) ∧ Wx.cell? ⟨h + 1 + 1 + 1 + 1 + 1 + 1, 1, none⟩ = some (.slice (some ⟨h + 1, 0, none⟩) 3 3) ∧ Wx.cell? ⟨h + 1 + 1 + 1 + 1 + 1 + 1, 2, none⟩ = some (.slice (some ⟨h + 1 + 1, 0, none⟩) 3 3) ∧ Wx.cell? ⟨h + 1 + 1 + 1 + 1 + 1 + 1, 3, none⟩ = some (.slice (some ⟨h + 1 + 1 + 1, 0, none⟩) 3 3) ∧ Wx.cell? ⟨h + 1 + 1 + 1 + 1 + 1 + 1, 4, none⟩ = some (.slice (some ⟨h + 1 + 1 + 1 + 1, 0, none⟩) 2 2) ∧ Wx.cell? ⟨h + 1 + 1 + 1 + 1 + 1 + 1, 5, none⟩ = some (.slice (some ⟨h + 1 + 1 + 1 + 1 + 1, 0, none⟩) 2 2)) (first | with_reducible exact s0 | with_reducible exact KEEP.out (by assumption) (by assumption)) (first
    | (go_at_call 16; refine (CS.out _ HB.out).mono ?_; rintro e zs ⟨D', F, rfl, hR, hF⟩
       have hb := hR.old
       have CM := Lib.hid (CM.out _ _ HB.out _ _ hR hF)
       have HB := Lib.hid (HB.out.trans (hb.mono HB.out.size))
       clear CS hR hF
       unfold stV slc at *)
    | (go_at_call 19; refine CM.out.mono ?_; rintro e zt ⟨rfl, hb⟩
       have HB := Lib.hid (HB.out.trans (hb.mono HB.out.size))
       clear CM))
  go_wp2_with fail
  go_ret
  exact ⟨rfl, H8.out.trans (HB.out.mono H8.out.size)⟩
end Go.Proofs.Ytmelcohfjonjfaa
