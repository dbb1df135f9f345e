/- links: the law's do. -/
import Derived.Test.YtmelcohfjonjfaaLjSt
namespace Go.Proofs.Ytmelcohfjonjfaa
open Go.RowKit

theorem pushX_two (n m : Nat) (v : Nat → Int) (of : Nat → List Nat) (l z : Int) (f : Bool) : ∃ a c : Int, (pushX n m v of l z f).r = .tuple #[.int .i64 a, .int .i64 c] := by
  unfold pushX
  split
  · split
    · exact fillX_two ..
    · exact fillX_two ..
  · exact ⟨_, _, rfl⟩
theorem afterX_two (n m : Nat) (v : Nat → Int) (of : Nat → List Nat) (x z : Int) : ∃ a c : Int, (afterX n m v of x z).r = .tuple #[.int .i64 a, .int .i64 c] := by
  unfold afterX
  split
  · exact fillX_two ..
  · exact ⟨_, _, rfl⟩
theorem takeX_two (n m : Nat) (v : Nat → Int) (of : Nat → List Nat) (x : Int) : ∃ a c : Int, (takeX n m v of x).r = .tuple #[.int .i64 a, .int .i64 c] := by
  unfold takeX
  split
  · exact ⟨_, _, rfl⟩
  · exact ⟨_, _, rfl⟩
theorem moveX_one (n m : Nat) (v : Nat → Int) (of : Nat → List Nat) (x l : Int) (f : Bool) : ∃ a : Int, (moveX n m v of x l f).r = .int .i64 a := by
  unfold moveX
  split
  · split
    · exact ⟨_, rfl⟩
    · exact ⟨_, rfl⟩
  · exact ⟨_, rfl⟩
theorem putX_one (n m : Nat) (v : Nat → Int) (of : Nat → List Nat) (x z : Int) : ∃ a : Int, (putX n m v of x z).r = .int .i64 a := ⟨_, rfl⟩
theorem orNone_two (c y : Int) : ∃ a b : Int, orNone c y = .tuple #[.int .i64 a, .int .i64 b] := by
  unfold orNone; split
  · exact ⟨_, _, rfl⟩
  · exact ⟨_, _, rfl⟩
theorem getW_two (n m : Nat) (v : Nat → Int) (of : Nat → List Nat) (x : Int) : ∃ a b : Int, getW n m v of x = .tuple #[.int .i64 a, .int .i64 b] := by
  unfold getW; split
  · exact ⟨_, _, rfl⟩
  · exact ⟨_, _, rfl⟩
theorem whereW_two (n m : Nat) (of : Nat → List Nat) (x : Int) : ∃ a b : Int, whereW n m of x = .tuple #[.int .i64 a, .int .i64 b] := by
  unfold whereW; split
  · exact ⟨_, _, rfl⟩
  · exact ⟨_, _, rfl⟩
theorem endW_two (m : Nat) (of : Nat → List Nat) (l : Int) (f : Bool) : ∃ a b : Int, endW m of l f = .tuple #[.int .i64 a, .int .i64 b] := by
  unfold endW; split
  · exact orNone_two _ _
  · exact ⟨_, _, rfl⟩
theorem stepW_two (n m : Nat) (of : Nat → List Nat) (x : Int) (f : Bool) : ∃ a b : Int, stepW n m of x f = .tuple #[.int .i64 a, .int .i64 b] := by
  unfold stepW; split
  · exact orNone_two _ _
  · exact ⟨_, _, rfl⟩
theorem lenW_two (m : Nat) (of : Nat → List Nat) (l : Int) : ∃ a b : Int, lenW m of l = .tuple #[.int .i64 a, .int .i64 b] := by
  unfold lenW; split
  · exact ⟨_, _, rfl⟩
  · exact ⟨_, _, rfl⟩
theorem belowT0 {S : Nat → Prop} {W V U : World} (hb : Below W.heap.size W V) (h : BelowS S V.heap.size V U) : BelowS S W.heap.size W U := (BelowS.of hb).trans (h.less hb.size)
set_option maxHeartbeats 4000000 in
set_option maxRecDepth 100000 in
theorem do_push {W0 : World} {P : JP} {W : World} {v : Nat → Int} {of : Nat → List Nat} (h : JSt W0 P W v of) (w a b c : Int) (f : Bool) (t3 : (w.tmod 10 == 3) = false) (t4 : (w.tmod 10 == 4) = false) (t5 : (w.tmod 10 == 5) = false) (t6 : (w.tmod 10 == 6) = false) (t7 : (w.tmod 10 == 7) = false) (t8 : (w.tmod 10 == 8) = false) (t9 : (w.tmod 10 == 9) = false)  :
    Calls Try.prog 18 #[.pointer (some ⟨P.B, 0, none⟩), .pointer (some ⟨P.C, 0, none⟩), callV w a b c f] W (DoPost W0 P W) := by
  have h1 := h.below ((Below.refl W.heap.size W).alloc (Nat.le_refl _) (.cells #[.int .u8 w, .int .i64 a, .int .i64 b, .int .i64 c, .bool f] 45))
  have HA := Lib.hid ((Below.refl W.heap.size W).alloc (Nat.le_refl _) (.cells #[.int .u8 w, .int .i64 a, .int .i64 b, .int .i64 c, .bool f] 45))
  have HX := Lib.hid (heap_alloc_new W (.cells #[.int .u8 w, .int .i64 a, .int .i64 b, .int .i64 c, .bool f] 45))
  have HLT := Lib.hid (show W.heap.size < (W.alloc (.cells #[.int .u8 w, .int .i64 a, .int .i64 b, .int .i64 c, .bool f] 45)).heap.size by rw [size1]; omega)
  have HF := Lib.hid (h.far h.bs)
  clear h
  generalize hW1 : W.alloc (.cells #[.int .u8 w, .int .i64 a, .int .i64 b, .int .i64 c, .bool f] 45) = W1 at h1 HA HX HLT
  have hT := pushX_two P.n P.m v of b c f
  have hZ := push_fz h1.fz b c f
  have CP := push_any h1.pool b c f
  have CR := Lib.hid (fun W' (hb : BelowS P.D.S W1.heap.size W1 W') => rpush_any (h1.mid hb) b c f)
  generalize pushX P.n P.m v of b c f = X at hT CP CR hZ
  have HZ := Lib.hid hZ
  clear hZ
  have CP := Lib.hid CP
  obtain ⟨X1, X2, X3⟩ := X
  obtain ⟨y, z, rfl⟩ := hT
  have H1 := Lib.hid h1
  have e1 : (y == y) = true := beq_self_eq_true _
  have e2 : (z == z) = true := beq_self_eq_true _
  clear h1
  have HX0 := HX.out
  have b0 := row_cell (i := 0) HX0 rfl; have b1 := row_cell (i := 1) HX0 rfl; have b2 := row_cell (i := 2) HX0 rfl; have b3 := row_cell (i := 3) HX0 rfl; have b4 := row_cell (i := 4) HX0 rfl
  unfold callV
  subst hW1
  clear HX0
  go_enter Try.func18, Try.ntmps18
  go_wp2_with fail
  refine CP.out.mono ?_
  rintro e w1 ⟨rfl, hp, hb⟩
  have HX1 := (hb.block W.heap.size HLT.out HF.out.1).trans HX.out
  clear b0 b1 b2 b3 b4
  have b0 := row_cell (i := 0) HX1 rfl; have b1 := row_cell (i := 1) HX1 rfl; have b2 := row_cell (i := 2) HX1 rfl; have b3 := row_cell (i := 3) HX1 rfl; have b4 := row_cell (i := 4) HX1 rfl
  have HB := Lib.hid hb; have HP := Lib.hid hp
  clear HX1 hb hp
  go_wp2_with fail
  refine (CR.out _ HB.out).mono ?_
  rintro e w2 ⟨rfl, hl, hb2⟩
  have HL := Lib.hid hl; have HB2 := Lib.hid hb2
  clear hl hb2 b0 b1 b2 b3 b4
  go_wp2_with fail
  go_ret
  exact ⟨rfl, ⟨_, _, H1.out.both HP.out HB.out HL.out HB2.out HZ.out⟩, belowT0 HA.out ((belowT1 HB.out).trans ((belowT2 HB2.out).less HB.out.size))⟩
set_option maxHeartbeats 4000000 in
set_option maxRecDepth 100000 in
theorem do_after {W0 : World} {P : JP} {W : World} {v : Nat → Int} {of : Nat → List Nat} (h : JSt W0 P W v of) (w a b c : Int) (f : Bool) (t3 : (w.tmod 10 == 3) = true)  :
    Calls Try.prog 18 #[.pointer (some ⟨P.B, 0, none⟩), .pointer (some ⟨P.C, 0, none⟩), callV w a b c f] W (DoPost W0 P W) := by
  have h1 := h.below ((Below.refl W.heap.size W).alloc (Nat.le_refl _) (.cells #[.int .u8 w, .int .i64 a, .int .i64 b, .int .i64 c, .bool f] 45))
  have HA := Lib.hid ((Below.refl W.heap.size W).alloc (Nat.le_refl _) (.cells #[.int .u8 w, .int .i64 a, .int .i64 b, .int .i64 c, .bool f] 45))
  have HX := Lib.hid (heap_alloc_new W (.cells #[.int .u8 w, .int .i64 a, .int .i64 b, .int .i64 c, .bool f] 45))
  have HLT := Lib.hid (show W.heap.size < (W.alloc (.cells #[.int .u8 w, .int .i64 a, .int .i64 b, .int .i64 c, .bool f] 45)).heap.size by rw [size1]; omega)
  have HF := Lib.hid (h.far h.bs)
  clear h
  generalize hW1 : W.alloc (.cells #[.int .u8 w, .int .i64 a, .int .i64 b, .int .i64 c, .bool f] 45) = W1 at h1 HA HX HLT
  have hT := afterX_two P.n P.m v of a c
  have hZ := after_fz h1.fz a c
  have CP := after_any h1.pool a c
  have CR := Lib.hid (fun W' (hb : BelowS P.D.S W1.heap.size W1 W') => rafter_any (h1.mid hb) a c)
  generalize afterX P.n P.m v of a c = X at hT CP CR hZ
  have HZ := Lib.hid hZ
  clear hZ
  have CP := Lib.hid CP
  obtain ⟨X1, X2, X3⟩ := X
  obtain ⟨y, z, rfl⟩ := hT
  have H1 := Lib.hid h1
  have e1 : (y == y) = true := beq_self_eq_true _
  have e2 : (z == z) = true := beq_self_eq_true _
  clear h1
  have HX0 := HX.out
  have b0 := row_cell (i := 0) HX0 rfl; have b1 := row_cell (i := 1) HX0 rfl; have b2 := row_cell (i := 2) HX0 rfl; have b3 := row_cell (i := 3) HX0 rfl; have b4 := row_cell (i := 4) HX0 rfl
  unfold callV
  subst hW1
  clear HX0
  go_enter Try.func18, Try.ntmps18
  go_wp2_with fail
  refine CP.out.mono ?_
  rintro e w1 ⟨rfl, hp, hb⟩
  have HX1 := (hb.block W.heap.size HLT.out HF.out.1).trans HX.out
  clear b0 b1 b2 b3 b4
  have b0 := row_cell (i := 0) HX1 rfl; have b1 := row_cell (i := 1) HX1 rfl; have b2 := row_cell (i := 2) HX1 rfl; have b3 := row_cell (i := 3) HX1 rfl; have b4 := row_cell (i := 4) HX1 rfl
  have HB := Lib.hid hb; have HP := Lib.hid hp
  clear HX1 hb hp
  go_wp2_with fail
  refine (CR.out _ HB.out).mono ?_
  rintro e w2 ⟨rfl, hl, hb2⟩
  have HL := Lib.hid hl; have HB2 := Lib.hid hb2
  clear hl hb2 b0 b1 b2 b3 b4
  go_wp2_with fail
  go_ret
  exact ⟨rfl, ⟨_, _, H1.out.both HP.out HB.out HL.out HB2.out HZ.out⟩, belowT0 HA.out ((belowT1 HB.out).trans ((belowT2 HB2.out).less HB.out.size))⟩
set_option maxHeartbeats 4000000 in
set_option maxRecDepth 100000 in
theorem do_take {W0 : World} {P : JP} {W : World} {v : Nat → Int} {of : Nat → List Nat} (h : JSt W0 P W v of) (w a b c : Int) (f : Bool) (t3 : (w.tmod 10 == 3) = false) (t4 : (w.tmod 10 == 4) = true)  :
    Calls Try.prog 18 #[.pointer (some ⟨P.B, 0, none⟩), .pointer (some ⟨P.C, 0, none⟩), callV w a b c f] W (DoPost W0 P W) := by
  have h1 := h.below ((Below.refl W.heap.size W).alloc (Nat.le_refl _) (.cells #[.int .u8 w, .int .i64 a, .int .i64 b, .int .i64 c, .bool f] 45))
  have HA := Lib.hid ((Below.refl W.heap.size W).alloc (Nat.le_refl _) (.cells #[.int .u8 w, .int .i64 a, .int .i64 b, .int .i64 c, .bool f] 45))
  have HX := Lib.hid (heap_alloc_new W (.cells #[.int .u8 w, .int .i64 a, .int .i64 b, .int .i64 c, .bool f] 45))
  have HLT := Lib.hid (show W.heap.size < (W.alloc (.cells #[.int .u8 w, .int .i64 a, .int .i64 b, .int .i64 c, .bool f] 45)).heap.size by rw [size1]; omega)
  have HF := Lib.hid (h.far h.bs)
  clear h
  generalize hW1 : W.alloc (.cells #[.int .u8 w, .int .i64 a, .int .i64 b, .int .i64 c, .bool f] 45) = W1 at h1 HA HX HLT
  have hT := takeX_two P.n P.m v of a
  have hZ := take_fz h1.fz a
  have CP := take_any h1.pool a
  have CR := Lib.hid (fun W' (hb : BelowS P.D.S W1.heap.size W1 W') => rtake_any (h1.mid hb) a)
  generalize takeX P.n P.m v of a = X at hT CP CR hZ
  have HZ := Lib.hid hZ
  clear hZ
  have CP := Lib.hid CP
  obtain ⟨X1, X2, X3⟩ := X
  obtain ⟨y, z, rfl⟩ := hT
  have H1 := Lib.hid h1
  have e1 : (y == y) = true := beq_self_eq_true _
  have e2 : (z == z) = true := beq_self_eq_true _
  clear h1
  have HX0 := HX.out
  have b0 := row_cell (i := 0) HX0 rfl; have b1 := row_cell (i := 1) HX0 rfl; have b2 := row_cell (i := 2) HX0 rfl; have b3 := row_cell (i := 3) HX0 rfl; have b4 := row_cell (i := 4) HX0 rfl
  unfold callV
  subst hW1
  clear HX0
  go_enter Try.func18, Try.ntmps18
  go_wp2_with fail
  refine CP.out.mono ?_
  rintro e w1 ⟨rfl, hp, hb⟩
  have HX1 := (hb.block W.heap.size HLT.out HF.out.1).trans HX.out
  clear b0 b1 b2 b3 b4
  have b0 := row_cell (i := 0) HX1 rfl; have b1 := row_cell (i := 1) HX1 rfl; have b2 := row_cell (i := 2) HX1 rfl; have b3 := row_cell (i := 3) HX1 rfl; have b4 := row_cell (i := 4) HX1 rfl
  have HB := Lib.hid hb; have HP := Lib.hid hp
  clear HX1 hb hp
  go_wp2_with fail
  refine (CR.out _ HB.out).mono ?_
  rintro e w2 ⟨rfl, hl, hb2⟩
  have HL := Lib.hid hl; have HB2 := Lib.hid hb2
  clear hl hb2 b0 b1 b2 b3 b4
  go_wp2_with fail
  go_ret
  exact ⟨rfl, ⟨_, _, H1.out.both HP.out HB.out HL.out HB2.out HZ.out⟩, belowT0 HA.out ((belowT1 HB.out).trans ((belowT2 HB2.out).less HB.out.size))⟩
set_option maxHeartbeats 4000000 in
set_option maxRecDepth 100000 in
theorem do_move {W0 : World} {P : JP} {W : World} {v : Nat → Int} {of : Nat → List Nat} (h : JSt W0 P W v of) (w a b c : Int) (f : Bool) (t3 : (w.tmod 10 == 3) = false) (t4 : (w.tmod 10 == 4) = false) (t5 : (w.tmod 10 == 5) = true)  :
    Calls Try.prog 18 #[.pointer (some ⟨P.B, 0, none⟩), .pointer (some ⟨P.C, 0, none⟩), callV w a b c f] W (DoPost W0 P W) := by
  have h1 := h.below ((Below.refl W.heap.size W).alloc (Nat.le_refl _) (.cells #[.int .u8 w, .int .i64 a, .int .i64 b, .int .i64 c, .bool f] 45))
  have HA := Lib.hid ((Below.refl W.heap.size W).alloc (Nat.le_refl _) (.cells #[.int .u8 w, .int .i64 a, .int .i64 b, .int .i64 c, .bool f] 45))
  have HX := Lib.hid (heap_alloc_new W (.cells #[.int .u8 w, .int .i64 a, .int .i64 b, .int .i64 c, .bool f] 45))
  have HLT := Lib.hid (show W.heap.size < (W.alloc (.cells #[.int .u8 w, .int .i64 a, .int .i64 b, .int .i64 c, .bool f] 45)).heap.size by rw [size1]; omega)
  have HF := Lib.hid (h.far h.bs)
  clear h
  generalize hW1 : W.alloc (.cells #[.int .u8 w, .int .i64 a, .int .i64 b, .int .i64 c, .bool f] 45) = W1 at h1 HA HX HLT
  have hT := moveX_one P.n P.m v of a b f
  have hZ := move_fz h1.fz a b f
  have CP := Lib.hid (fun W' (hb : Below W1.heap.size W1 W') => (show JSt W0 P W' v of from h1.below hb))
  have CQ := fun W' (hb : Below W1.heap.size W1 W') => move_any (h1.below hb).pool a b f
  have CR := fun W' W'' (hb : Below W1.heap.size W1 W') (hc : BelowS P.D.S W'.heap.size W' W'') => rmove_any ((h1.below hb).mid hc) a b f
  generalize moveX P.n P.m v of a b f = X at hT CQ CR hZ
  have HZ := Lib.hid hZ
  clear hZ
  have CQ := Lib.hid CQ; have CR := Lib.hid CR
  obtain ⟨X1, X2, X3⟩ := X
  obtain ⟨y, rfl⟩ := hT
  have e1 : (y == y) = true := beq_self_eq_true _
  have KEEP : Hid (∀ (A : World), BelowS P.T W1.heap.size W1 A → A.cell? ⟨W.heap.size, 1, none⟩ = some (.int .i64 a) ∧ A.cell? ⟨W.heap.size, 2, none⟩ = some (.int .i64 b) ∧ A.cell? ⟨W.heap.size, 3, none⟩ = some (.int .i64 c) ∧ A.cell? ⟨W.heap.size, 4, none⟩ = some (.bool f)) := Lib.hid (fun A hb => by
    have hx := (hb.block W.heap.size HLT.out (fun e => e.elim HF.out.1 HF.out.2)).trans HX.out
    exact ⟨row_cell hx rfl, row_cell hx rfl, row_cell hx rfl, row_cell hx rfl⟩)
  clear h1
  have HX0 := HX.out
  have b0 := row_cell (i := 0) HX0 rfl; have b1 := row_cell (i := 1) HX0 rfl; have b2 := row_cell (i := 2) HX0 rfl; have b3 := row_cell (i := 3) HX0 rfl; have b4 := row_cell (i := 4) HX0 rfl
  unfold callV
  subst hW1
  clear HX0
  go_enter Try.func18, Try.ntmps18
  go_wp2_with fail
  generalize W.alloc (.cells #[.int .u8 w, .int .i64 a, .int .i64 b, .int .i64 c, .bool f] 45) = W1 at *
  have s0 := KEEP.out W1.drew (BelowS.of ((Below.refl _ _).drew))
  have HD := Lib.hid ((Below.refl W1.heap.size W1).drew)
  go_region_held3 (fun Wx => Wx.cell? ⟨W.heap.size, 1, none⟩ = some (.int .i64 a) ∧ Wx.cell? ⟨W.heap.size, 2, none⟩ = some (.int .i64 b) ∧ Wx.cell? ⟨W.heap.size, 3, none⟩ = some (.int .i64 c) ∧ Wx.cell? ⟨W.heap.size, 4, none⟩ = some (.bool f)) (first | with_reducible exact s0 | with_reducible exact KEEP.out _ HK.out) (first
    | (go_at_call 31; refine (CQ.out _ HD.out).mono ?_; rintro e w1 ⟨rfl, hp, hb⟩
       have HK := Lib.hid (belowT0 HD.out (belowT1 hb)); have HP := Lib.hid hp; have HB := Lib.hid hb
       clear hp hb CQ)
    | (go_at_call 32; refine (CR.out _ _ HD.out HB.out).mono ?_; rintro e w2 ⟨rfl, hl, hb2⟩
       have HK := Lib.hid (belowT0 HD.out ((belowT1 HB.out).trans ((belowT2 hb2).less HB.out.size))); have HL := Lib.hid hl; have HB2 := Lib.hid hb2
       clear hl hb2 CR))
  all_goals
    go_wp2_with fail
    go_ret
    exact ⟨rfl, ⟨_, _, (CP.out _ HD.out).both HP.out HB.out HL.out HB2.out HZ.out⟩, belowT0 HA.out HK.out⟩
set_option maxHeartbeats 4000000 in
set_option maxRecDepth 100000 in
theorem do_put {W0 : World} {P : JP} {W : World} {v : Nat → Int} {of : Nat → List Nat} (h : JSt W0 P W v of) (w a b c : Int) (f : Bool) (t3 : (w.tmod 10 == 3) = false) (t4 : (w.tmod 10 == 4) = false) (t5 : (w.tmod 10 == 5) = false) (t6 : (w.tmod 10 == 6) = true)  :
    Calls Try.prog 18 #[.pointer (some ⟨P.B, 0, none⟩), .pointer (some ⟨P.C, 0, none⟩), callV w a b c f] W (DoPost W0 P W) := by
  have h1 := h.below ((Below.refl W.heap.size W).alloc (Nat.le_refl _) (.cells #[.int .u8 w, .int .i64 a, .int .i64 b, .int .i64 c, .bool f] 45))
  have HA := Lib.hid ((Below.refl W.heap.size W).alloc (Nat.le_refl _) (.cells #[.int .u8 w, .int .i64 a, .int .i64 b, .int .i64 c, .bool f] 45))
  have HX := Lib.hid (heap_alloc_new W (.cells #[.int .u8 w, .int .i64 a, .int .i64 b, .int .i64 c, .bool f] 45))
  have HLT := Lib.hid (show W.heap.size < (W.alloc (.cells #[.int .u8 w, .int .i64 a, .int .i64 b, .int .i64 c, .bool f] 45)).heap.size by rw [size1]; omega)
  have HF := Lib.hid (h.far h.bs)
  clear h
  generalize hW1 : W.alloc (.cells #[.int .u8 w, .int .i64 a, .int .i64 b, .int .i64 c, .bool f] 45) = W1 at h1 HA HX HLT
  have hT := putX_one P.n P.m v of a c
  have hZ := put_fz h1.fz a c
  have CP := Lib.hid (fun W' (hb : Below W1.heap.size W1 W') => (show JSt W0 P W' v of from h1.below hb))
  have CQ := fun W' (hb : Below W1.heap.size W1 W') => put_st (h1.below hb).pool a c
  have CR := fun W' W'' (hb : Below W1.heap.size W1 W') (hc : BelowS P.D.S W'.heap.size W' W'') => rput_any ((h1.below hb).mid hc) a c
  generalize putX P.n P.m v of a c = X at hT CQ CR hZ
  have HZ := Lib.hid hZ
  clear hZ
  have CQ := Lib.hid CQ; have CR := Lib.hid CR
  obtain ⟨X1, X2, X3⟩ := X
  obtain ⟨y, rfl⟩ := hT
  have e1 : (y == y) = true := beq_self_eq_true _
  have KEEP : Hid (∀ (A : World), BelowS P.T W1.heap.size W1 A → A.cell? ⟨W.heap.size, 1, none⟩ = some (.int .i64 a) ∧ A.cell? ⟨W.heap.size, 2, none⟩ = some (.int .i64 b) ∧ A.cell? ⟨W.heap.size, 3, none⟩ = some (.int .i64 c) ∧ A.cell? ⟨W.heap.size, 4, none⟩ = some (.bool f)) := Lib.hid (fun A hb => by
    have hx := (hb.block W.heap.size HLT.out (fun e => e.elim HF.out.1 HF.out.2)).trans HX.out
    exact ⟨row_cell hx rfl, row_cell hx rfl, row_cell hx rfl, row_cell hx rfl⟩)
  clear h1
  have HX0 := HX.out
  have b0 := row_cell (i := 0) HX0 rfl; have b1 := row_cell (i := 1) HX0 rfl; have b2 := row_cell (i := 2) HX0 rfl; have b3 := row_cell (i := 3) HX0 rfl; have b4 := row_cell (i := 4) HX0 rfl
  unfold callV
  subst hW1
  clear HX0
  go_enter Try.func18, Try.ntmps18
  go_wp2_with fail
  generalize W.alloc (.cells #[.int .u8 w, .int .i64 a, .int .i64 b, .int .i64 c, .bool f] 45) = W1 at *
  have s0 := KEEP.out W1.drew (BelowS.of ((Below.refl _ _).drew))
  have HD := Lib.hid ((Below.refl W1.heap.size W1).drew)
  go_region_held3 (fun Wx => Wx.cell? ⟨W.heap.size, 1, none⟩ = some (.int .i64 a) ∧ Wx.cell? ⟨W.heap.size, 2, none⟩ = some (.int .i64 b) ∧ Wx.cell? ⟨W.heap.size, 3, none⟩ = some (.int .i64 c) ∧ Wx.cell? ⟨W.heap.size, 4, none⟩ = some (.bool f)) (first | with_reducible exact s0 | with_reducible exact KEEP.out _ HK.out) (first
    | (go_at_call 15; refine (CQ.out _ HD.out).mono ?_; rintro e w1 ⟨rfl, hp, hb⟩
       have HK := Lib.hid (belowT0 HD.out (belowT1 hb)); have HP := Lib.hid hp; have HB := Lib.hid hb
       clear hp hb CQ)
    | (go_at_call 48; refine (CR.out _ _ HD.out HB.out).mono ?_; rintro e w2 ⟨rfl, hl, hb2⟩
       have HK := Lib.hid (belowT0 HD.out ((belowT1 HB.out).trans ((belowT2 hb2).less HB.out.size))); have HL := Lib.hid hl; have HB2 := Lib.hid hb2
       clear hl hb2 CR))
  all_goals
    go_wp2_with fail
    go_ret
    exact ⟨rfl, ⟨_, _, (CP.out _ HD.out).both HP.out HB.out HL.out HB2.out HZ.out⟩, belowT0 HA.out HK.out⟩
set_option maxHeartbeats 4000000 in
set_option maxRecDepth 100000 in
theorem do_get {W0 : World} {P : JP} {W : World} {v : Nat → Int} {of : Nat → List Nat} (h : JSt W0 P W v of) (w a b c : Int) (f : Bool) (t3 : (w.tmod 10 == 3) = false) (t4 : (w.tmod 10 == 4) = false) (t5 : (w.tmod 10 == 5) = false) (t6 : (w.tmod 10 == 6) = false) (t7 : (w.tmod 10 == 7) = true)  :
    Calls Try.prog 18 #[.pointer (some ⟨P.B, 0, none⟩), .pointer (some ⟨P.C, 0, none⟩), callV w a b c f] W (DoPost W0 P W) := by
  have h1 := h.below ((Below.refl W.heap.size W).alloc (Nat.le_refl _) (.cells #[.int .u8 w, .int .i64 a, .int .i64 b, .int .i64 c, .bool f] 45))
  have HA := Lib.hid ((Below.refl W.heap.size W).alloc (Nat.le_refl _) (.cells #[.int .u8 w, .int .i64 a, .int .i64 b, .int .i64 c, .bool f] 45))
  have HX := Lib.hid (heap_alloc_new W (.cells #[.int .u8 w, .int .i64 a, .int .i64 b, .int .i64 c, .bool f] 45))
  have HLT := Lib.hid (show W.heap.size < (W.alloc (.cells #[.int .u8 w, .int .i64 a, .int .i64 b, .int .i64 c, .bool f] 45)).heap.size by rw [size1]; omega)
  have HF := Lib.hid (h.far h.bs)
  clear h
  generalize hW1 : W.alloc (.cells #[.int .u8 w, .int .i64 a, .int .i64 b, .int .i64 c, .bool f] 45) = W1 at h1 HA HX HLT
  have hT0 := getW_two P.n P.m v of a
  have CP0 := get_st h1.pool a
  have CR0 := fun W' (hb : Below W1.heap.size W1 W') => rget_any ((h1.below hb).lr) a
  generalize getW P.n P.m v of a = X0 at hT0 CP0 CR0
  obtain ⟨y0, z0, rfl⟩ := hT0
  have CP0 := Lib.hid CP0; have CR0 := Lib.hid CR0
  have ey0 : (y0 == y0) = true := beq_self_eq_true _
  have ez0 : (z0 == z0) = true := beq_self_eq_true _
  have hT1 := whereW_two P.n P.m of a
  have CP1 := where_st h1.pool a
  have CR1 := fun W' (hb : Below W1.heap.size W1 W') => rwhere_any ((h1.below hb).lr) a
  generalize whereW P.n P.m of a = X1 at hT1 CP1 CR1
  obtain ⟨y1, z1, rfl⟩ := hT1
  have CP1 := Lib.hid CP1; have CR1 := Lib.hid CR1
  have ey1 : (y1 == y1) = true := beq_self_eq_true _
  have ez1 : (z1 == z1) = true := beq_self_eq_true _
  have H1 := Lib.hid h1
  clear h1
  have HX0 := HX.out
  have b0 := row_cell (i := 0) HX0 rfl; have b1 := row_cell (i := 1) HX0 rfl; have b2 := row_cell (i := 2) HX0 rfl; have b3 := row_cell (i := 3) HX0 rfl; have b4 := row_cell (i := 4) HX0 rfl
  unfold callV
  subst hW1
  clear HX0
  go_enter Try.func18, Try.ntmps18
  go_wp2_with fail
  refine CP0.out.mono ?_
  rintro e w1 ⟨rfl, rfl⟩
  go_wp2_with fail
  refine (CR0.out _ (Below.refl _ _)).mono ?_
  rintro e w1 ⟨rfl, rfl⟩
  go_wp2_with fail
  refine CP1.out.mono ?_
  rintro e w1 ⟨rfl, rfl⟩
  go_wp2_with fail
  refine (CR1.out _ (Below.refl _ _)).mono ?_
  rintro e w1 ⟨rfl, rfl⟩
  go_wp2_with fail
  go_ret
  exact ⟨rfl, ⟨_, _, H1.out⟩, BelowS.of HA.out⟩
set_option maxHeartbeats 4000000 in
set_option maxRecDepth 100000 in
theorem do_step {W0 : World} {P : JP} {W : World} {v : Nat → Int} {of : Nat → List Nat} (h : JSt W0 P W v of) (w a b c : Int) (f : Bool) (t3 : (w.tmod 10 == 3) = false) (t4 : (w.tmod 10 == 4) = false) (t5 : (w.tmod 10 == 5) = false) (t6 : (w.tmod 10 == 6) = false) (t7 : (w.tmod 10 == 7) = false) (t8 : (w.tmod 10 == 8) = true)  :
    Calls Try.prog 18 #[.pointer (some ⟨P.B, 0, none⟩), .pointer (some ⟨P.C, 0, none⟩), callV w a b c f] W (DoPost W0 P W) := by
  have h1 := h.below ((Below.refl W.heap.size W).alloc (Nat.le_refl _) (.cells #[.int .u8 w, .int .i64 a, .int .i64 b, .int .i64 c, .bool f] 45))
  have HA := Lib.hid ((Below.refl W.heap.size W).alloc (Nat.le_refl _) (.cells #[.int .u8 w, .int .i64 a, .int .i64 b, .int .i64 c, .bool f] 45))
  have HX := Lib.hid (heap_alloc_new W (.cells #[.int .u8 w, .int .i64 a, .int .i64 b, .int .i64 c, .bool f] 45))
  have HLT := Lib.hid (show W.heap.size < (W.alloc (.cells #[.int .u8 w, .int .i64 a, .int .i64 b, .int .i64 c, .bool f] 45)).heap.size by rw [size1]; omega)
  have HF := Lib.hid (h.far h.bs)
  clear h
  generalize hW1 : W.alloc (.cells #[.int .u8 w, .int .i64 a, .int .i64 b, .int .i64 c, .bool f] 45) = W1 at h1 HA HX HLT
  have hT0 := stepW_two P.n P.m of a f
  have CP0 := step_st h1.pool a f
  have CR0 := fun W' (hb : Below W1.heap.size W1 W') => rstep_any ((h1.below hb).lr) a f
  generalize stepW P.n P.m of a f = X0 at hT0 CP0 CR0
  obtain ⟨y0, z0, rfl⟩ := hT0
  have CP0 := Lib.hid CP0; have CR0 := Lib.hid CR0
  have ey0 : (y0 == y0) = true := beq_self_eq_true _
  have ez0 : (z0 == z0) = true := beq_self_eq_true _
  have H1 := Lib.hid h1
  clear h1
  have HX0 := HX.out
  have b0 := row_cell (i := 0) HX0 rfl; have b1 := row_cell (i := 1) HX0 rfl; have b2 := row_cell (i := 2) HX0 rfl; have b3 := row_cell (i := 3) HX0 rfl; have b4 := row_cell (i := 4) HX0 rfl
  unfold callV
  subst hW1
  clear HX0
  go_enter Try.func18, Try.ntmps18
  go_wp2_with fail
  refine CP0.out.mono ?_
  rintro e w1 ⟨rfl, rfl⟩
  go_wp2_with fail
  refine (CR0.out _ (Below.refl _ _)).mono ?_
  rintro e w1 ⟨rfl, rfl⟩
  go_wp2_with fail
  go_ret
  exact ⟨rfl, ⟨_, _, H1.out⟩, BelowS.of HA.out⟩
set_option maxHeartbeats 4000000 in
set_option maxRecDepth 100000 in
theorem do_end {W0 : World} {P : JP} {W : World} {v : Nat → Int} {of : Nat → List Nat} (h : JSt W0 P W v of) (w a b c : Int) (f : Bool) (t3 : (w.tmod 10 == 3) = false) (t4 : (w.tmod 10 == 4) = false) (t5 : (w.tmod 10 == 5) = false) (t6 : (w.tmod 10 == 6) = false) (t7 : (w.tmod 10 == 7) = false) (t8 : (w.tmod 10 == 8) = false) (t9 : (w.tmod 10 == 9) = true)  :
    Calls Try.prog 18 #[.pointer (some ⟨P.B, 0, none⟩), .pointer (some ⟨P.C, 0, none⟩), callV w a b c f] W (DoPost W0 P W) := by
  have h1 := h.below ((Below.refl W.heap.size W).alloc (Nat.le_refl _) (.cells #[.int .u8 w, .int .i64 a, .int .i64 b, .int .i64 c, .bool f] 45))
  have HA := Lib.hid ((Below.refl W.heap.size W).alloc (Nat.le_refl _) (.cells #[.int .u8 w, .int .i64 a, .int .i64 b, .int .i64 c, .bool f] 45))
  have HX := Lib.hid (heap_alloc_new W (.cells #[.int .u8 w, .int .i64 a, .int .i64 b, .int .i64 c, .bool f] 45))
  have HLT := Lib.hid (show W.heap.size < (W.alloc (.cells #[.int .u8 w, .int .i64 a, .int .i64 b, .int .i64 c, .bool f] 45)).heap.size by rw [size1]; omega)
  have HF := Lib.hid (h.far h.bs)
  clear h
  generalize hW1 : W.alloc (.cells #[.int .u8 w, .int .i64 a, .int .i64 b, .int .i64 c, .bool f] 45) = W1 at h1 HA HX HLT
  have hT0 := endW_two P.m of b f
  have CP0 := end_st h1.pool b f
  have CR0 := fun W' (hb : Below W1.heap.size W1 W') => rEnd_any ((h1.below hb).lr) b f
  generalize endW P.m of b f = X0 at hT0 CP0 CR0
  obtain ⟨y0, z0, rfl⟩ := hT0
  have CP0 := Lib.hid CP0; have CR0 := Lib.hid CR0
  have ey0 : (y0 == y0) = true := beq_self_eq_true _
  have ez0 : (z0 == z0) = true := beq_self_eq_true _
  have hT1 := lenW_two P.m of b
  have CP1 := len_any h1.pool b
  have CR1 := fun W' (hb : Below W1.heap.size W1 W') => rlen_any ((h1.below hb).lr) b
  unfold LenPost at CP1
  generalize lenW P.m of b = X1 at hT1 CP1 CR1
  obtain ⟨y1, z1, rfl⟩ := hT1
  have CP1 := Lib.hid CP1; have CR1 := Lib.hid CR1
  have ey1 : (y1 == y1) = true := beq_self_eq_true _
  have ez1 : (z1 == z1) = true := beq_self_eq_true _
  have H1 := Lib.hid h1
  clear h1
  have HX0 := HX.out
  have b0 := row_cell (i := 0) HX0 rfl; have b1 := row_cell (i := 1) HX0 rfl; have b2 := row_cell (i := 2) HX0 rfl; have b3 := row_cell (i := 3) HX0 rfl; have b4 := row_cell (i := 4) HX0 rfl
  unfold callV
  subst hW1
  clear HX0
  go_enter Try.func18, Try.ntmps18
  go_wp2_with fail
  refine CP0.out.mono ?_
  rintro e w1 ⟨rfl, rfl⟩
  go_wp2_with fail
  refine (CR0.out _ (Below.refl _ _)).mono ?_
  rintro e w1 ⟨rfl, rfl⟩
  go_wp2_with fail
  refine CP1.out.mono ?_
  rintro e w4 ⟨rfl, hb4⟩
  have HX1 := (hb4.block W.heap.size HLT.out).trans HX.out
  clear b0 b1 b2 b3 b4
  have b0 := row_cell (i := 0) HX1 rfl; have b1 := row_cell (i := 1) HX1 rfl; have b2 := row_cell (i := 2) HX1 rfl; have b3 := row_cell (i := 3) HX1 rfl; have b4 := row_cell (i := 4) HX1 rfl
  have HB4 := Lib.hid hb4
  clear HX1 hb4
  go_wp2_with fail
  refine (CR1.out _ HB4.out).mono ?_
  rintro e w5 ⟨rfl, rfl⟩
  go_wp2_with fail
  go_ret
  exact ⟨rfl, ⟨_, _, H1.out.below HB4.out⟩, belowT0 HA.out (BelowS.of HB4.out)⟩
theorem do_any {W0 : World} {P : JP} {W : World} {v : Nat → Int} {of : Nat → List Nat} (h : JSt W0 P W v of) (w a b c : Int) (f : Bool) :
    Calls Try.prog 18 #[.pointer (some ⟨P.B, 0, none⟩), .pointer (some ⟨P.C, 0, none⟩), callV w a b c f] W (DoPost W0 P W) := by
  cases t3 : w.tmod 10 == 3 with
  | true => exact do_after h w a b c f t3
  | false =>
  cases t4 : w.tmod 10 == 4 with
  | true => exact do_take h w a b c f t3 t4
  | false =>
  cases t5 : w.tmod 10 == 5 with
  | true => exact do_move h w a b c f t3 t4 t5
  | false =>
  cases t6 : w.tmod 10 == 6 with
  | true => exact do_put h w a b c f t3 t4 t5 t6
  | false =>
  cases t7 : w.tmod 10 == 7 with
  | true => exact do_get h w a b c f t3 t4 t5 t6 t7
  | false =>
  cases t8 : w.tmod 10 == 8 with
  | true => exact do_step h w a b c f t3 t4 t5 t6 t7 t8
  | false =>
  cases t9 : w.tmod 10 == 9 with
  | true => exact do_end h w a b c f t3 t4 t5 t6 t7 t8 t9
  | false => exact do_push h w a b c f t3 t4 t5 t6 t7 t8 t9
end Go.Proofs.Ytmelcohfjonjfaa
