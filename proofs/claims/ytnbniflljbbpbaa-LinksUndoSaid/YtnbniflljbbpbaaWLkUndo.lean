/- links: the law LinksUndo. -/
import Derived.Test.YtnbniflljbbpbaaLjUnMath
namespace Go.Proofs.Ytnbniflljbbpbaa
open Go.RowKit

set_option maxHeartbeats 4000000 in
set_option maxRecDepth 100000 in
theorem undo_far {W : World} {p : Option Addr} {len cap : Nat} (s yw ya yb yc : Int) (yf : Bool) (hs : s < 1 ∨ 60 < s ∨ 60 < (len : Int)) :
    Calls Try.prog 7 #[.int .i64 s, .slice p len cap, callV yw ya yb yc yf] W (TruePost W) := by
  have CA := Lib.hid awake_any
  have HB := Lib.hid ((Below.refl W.heap.size W).alloc (Nat.le_refl _) (.cells #[.int .u8 yw, .int .i64 ya, .int .i64 yb, .int .i64 yc, .bool yf] 45))
  unfold callV
  by_cases h1 : s < 1
  · clear hs
    go_enter Try.func7, Try.ntmps7
    go_wp2_with fail
    refine (CA.out _).mono ?_
    rintro e w1 ⟨rfl, hb⟩
    go_wp2_with fail
    go_ret
    exact ⟨rfl, HB.out.trans (hb.mono HB.out.size)⟩
  · by_cases h2 : 60 < s
    · clear hs
      go_enter Try.func7, Try.ntmps7
      go_wp2_with fail
      refine (CA.out _).mono ?_
      rintro e w1 ⟨rfl, hb⟩
      go_wp2_with fail
      go_ret
      exact ⟨rfl, HB.out.trans (hb.mono HB.out.size)⟩
    · have h3 : 60 < (len : Int) := by omega
      clear hs
      go_enter Try.func7, Try.ntmps7
      go_wp2_with fail
      refine (CA.out _).mono ?_
      rintro e w1 ⟨rfl, hb⟩
      go_wp2_with fail
      go_ret
      exact ⟨rfl, HB.out.trans (hb.mono HB.out.size)⟩
set_option maxHeartbeats 8000000 in
set_option maxRecDepth 100000 in
theorem undo_near {W : World} {p : Option Addr} {n len cap : Nat} (nn : 1 ≤ n ∧ n ≤ 60) (hl : len ≤ 60) (hx : CallsAt W p len) (yw ya yb yc : Int) (yf : Bool) :
    Calls Try.prog 7 #[.int .i64 (n : Int), .slice p len cap, callV yw ya yb yc yf] W (TruePost W) := by
  have CA := Lib.hid awake_any
  have hW1 := (Below.refl W.heap.size W).alloc (Nat.le_refl _) (.cells #[.int .u8 yw, .int .i64 ya, .int .i64 yb, .int .i64 yc, .bool yf] 45)
  have CM := Lib.hid (show Calls Try.prog 25 #[.int .i64 (n : Int), .int .i64 3, .slice p len cap] (W.alloc (.cells #[.int .u8 yw, .int .i64 ya, .int .i64 yb, .int .i64 yc, .bool yf] 45)) (MadePost n 3 (W.alloc (.cells #[.int .u8 yw, .int .i64 ya, .int .i64 yb, .int .i64 yc, .bool yf] 45))) from made_any (m := 3) (by omega) (by omega) (hx.below hW1) (by omega))
  have HY := Lib.hid (heap_alloc_new W (.cells #[.int .u8 yw, .int .i64 ya, .int .i64 yb, .int .i64 yc, .bool yf] 45))
  have HW1 := Lib.hid hW1
  have HYL := Lib.hid (size1 W (.cells #[.int .u8 yw, .int .i64 ya, .int .i64 yb, .int .i64 yc, .bool yf] 45))
  have i1 : ¬ (n : Int) < 1 := by omega
  have i2 : ¬ (60 : Int) < n := by omega
  have i3 : ¬ (60 : Int) < len := by omega
  clear hx nn hl hW1
  unfold callV
  go_enter Try.func7, Try.ntmps7
  go_wp2_with fail
  generalize hK0 : W.heap.size = K0 at *
  generalize W.alloc (.cells #[.int .u8 yw, .int .i64 ya, .int .i64 yb, .int .i64 yc, .bool yf] 45) = W1 at CM HY HW1 HYL ⊢
  refine CM.out.mono ?_
  rintro e w1 ⟨P, v, of, hPn, hPm, rfl, J⟩
  have CS := Lib.hid (save_any J.pool)
  have HJ := Lib.hid J
  clear hPn hPm J CM
  go_wp2_with fail
  refine CS.out.mono ?_
  rintro e w2 ⟨D1, F1, rfl, hR1, hF1⟩
  have hJ3 := (HJ.out.below hR1.old).below ((Below.refl w2.heap.size w2).alloc (Nat.le_refl _) (.cells #[.slice (some ⟨D1.v, 0, none⟩) P.n D1.cv, .slice (some ⟨D1.l, 0, none⟩) P.n D1.cl, .slice (some ⟨D1.n, 0, none⟩) P.n D1.cn, .slice (some ⟨D1.p, 0, none⟩) P.n D1.cp, .slice (some ⟨D1.f, 0, none⟩) P.m D1.cf, .slice (some ⟨D1.a, 0, none⟩) P.m D1.ca] 39))
  have hrows := hR1.rows
  have hB3 := (Below.refl w2.heap.size w2).alloc (Nat.le_refl _) (.cells #[.slice (some ⟨D1.v, 0, none⟩) P.n D1.cv, .slice (some ⟨D1.l, 0, none⟩) P.n D1.cl, .slice (some ⟨D1.n, 0, none⟩) P.n D1.cn, .slice (some ⟨D1.p, 0, none⟩) P.n D1.cp, .slice (some ⟨D1.f, 0, none⟩) P.m D1.cf, .slice (some ⟨D1.a, 0, none⟩) P.m D1.ca] 39)
  have hR3 : RowsAt (w2.alloc (.cells #[.slice (some ⟨D1.v, 0, none⟩) P.n D1.cv, .slice (some ⟨D1.l, 0, none⟩) P.n D1.cl, .slice (some ⟨D1.n, 0, none⟩) P.n D1.cn, .slice (some ⟨D1.p, 0, none⟩) P.n D1.cp, .slice (some ⟨D1.f, 0, none⟩) P.m D1.cf, .slice (some ⟨D1.a, 0, none⟩) P.m D1.ca] 39)) P.n P.m D1 v F1 := ⟨hrows.rv.below hB3 hrows.rv.lt, hrows.rl.below hB3 hrows.rl.lt, hrows.rn.below hB3 hrows.rn.lt, hrows.rp.below hB3 hrows.rp.lt, hrows.rf.below hB3 hrows.rf.lt, hrows.ra.below hB3 hrows.ra.lt⟩
  have hfar : ∀ k, D1.S k → ¬ P.D.S k := by
    intro k hk
    have h1 := HJ.out.bs
    have h2 := hR1.ge
    obtain ⟨e1, e2, e3, e4, e5⟩ := hR1.ne
    refine (HJ.out.far (q := k) ?_).1
    rcases hk with e | e | e | e | e | e <;> omega
  have hK9 : ¬ P.D.S w2.heap.size := (HJ.out.far (q := w2.heap.size) (by have := HJ.out.bs; have := hR1.old.size; omega)).1
  have hlt : ∀ k, P.D.S k → W1.heap.size ≤ k := fun k hk => (HJ.out.lt k (.inr (.inl hk))).1
  have hbox := heap_alloc_new w2 (.cells #[.slice (some ⟨D1.v, 0, none⟩) P.n D1.cv, .slice (some ⟨D1.l, 0, none⟩) P.n D1.cl, .slice (some ⟨D1.n, 0, none⟩) P.n D1.cn, .slice (some ⟨D1.p, 0, none⟩) P.n D1.cp, .slice (some ⟨D1.f, 0, none⟩) P.m D1.cf, .slice (some ⟨D1.a, 0, none⟩) P.m D1.ca] 39)
  have h39 : w2.heap.size < (w2.alloc (.cells #[.slice (some ⟨D1.v, 0, none⟩) P.n D1.cv, .slice (some ⟨D1.l, 0, none⟩) P.n D1.cl, .slice (some ⟨D1.n, 0, none⟩) P.n D1.cn, .slice (some ⟨D1.p, 0, none⟩) P.n D1.cp, .slice (some ⟨D1.f, 0, none⟩) P.m D1.cf, .slice (some ⟨D1.a, 0, none⟩) P.m D1.ca] 39)).heap.size := by rw [size1]; omega
  have hy3 := (hJ3.old.block K0 (by rw [HYL.out]; omega)).trans HY.out
  have b1 := row_cell (i := 1) hy3 rfl; have b2 := row_cell (i := 2) hy3 rfl; have b3 := row_cell (i := 3) hy3 rfl; have b4 := row_cell (i := 4) hy3 rfl
  unfold stV slc
  clear hrows hB3 hR1 CS
  have HF1 := Lib.hid hF1
  clear hF1
  go_wp2_with fail
  generalize w2.alloc (.cells #[.slice (some ⟨D1.v, 0, none⟩) P.n D1.cv, .slice (some ⟨D1.l, 0, none⟩) P.n D1.cl, .slice (some ⟨D1.n, 0, none⟩) P.n D1.cn, .slice (some ⟨D1.p, 0, none⟩) P.n D1.cp, .slice (some ⟨D1.f, 0, none⟩) P.m D1.cf, .slice (some ⟨D1.a, 0, none⟩) P.m D1.ca] 39) = w3 at *
  generalize w2.heap.size = K9 at *
  have hnn := hJ3.lr.nn
  have hmm := hJ3.lr.mm
  obtain ⟨F0, hF0⟩ := hJ3.lr.rep
  have SAME := Lib.hid (fun V (u : UnSt W1 w3 P V v of) U z D2 F2 (hb : Below V.heap.size V U) (hz : NewRows U z P.n P.m D2 v F2) (hF2 : Rep P.n P.m of F2) =>
    same_any hz.rows.st ((((u.rows hR3 hfar).st.turn HF1.out hF2 (fun _ _ => rfl)).below (hb.trans (hz.old.mono hb.size)))) (by omega) (by omega))
  have YBOX := Lib.hid (fun V (u : UnSt W1 w3 P V v of) => (u.old.block K0 (by rw [HYL.out]; omega)).trans HY.out)
  have KBOX := Lib.hid (fun V v' of' (u : UnSt W1 w3 P V v' of') => (u.keep K9 h39 hK9).trans hbox)
  have HU3 := Lib.hid hJ3.un
  have hpush := push_is P.n P.m v of yb yc yf
  have hafter := after_is (n := P.n) (m := P.m) (v := v) (of := of) hF0.nodup hF0.disj ya yc
  have CP := push_any hJ3.pool yb yc yf
  have CA2 := Lib.hid (fun V (u : UnSt W1 w3 P V v of) => after_any u.pool ya yc)
  have hfz := hJ3.fz
  clear b1 b2 b3 b4
  have YBOX2 := Lib.hid (fun V v' of' (u : UnSt W1 w3 P V v' of') => (u.old.block K0 (by rw [HYL.out]; omega)).trans HY.out)
  have HLT := Lib.hid hlt
  have ec : (yc != yc) = false := by simp
  clear hJ3 hR3 hfar hlt hy3 hF0 hnn hmm HJ
  clear hbox h39 hK9
  rcases hpush with ⟨ep, hep, eX⟩ | ⟨s, i, a, b, hI, eX⟩
  · rcases hafter with ⟨ea, hea, eA⟩ | ⟨s2, i2, a2, b2', hI2, eA, hStep⟩
    · rw [eX] at CP
      have CP := Lib.hid CP
      clear eX hfz
      refine CP.out.mono ?_
      rintro e w4 ⟨rfl, hp, hb⟩
      have HU4 := Lib.hid (HU3.out.step HLT.out hp hb)
      clear hp hb CP
      go_wp2_with fail
      have HDa := Lib.hid ((Below.refl w4.heap.size w4).drew)
      have KEEPa : Hid (∀ A, Below w4.heap.size w4 A → A.cell? ⟨K9, 0, none⟩ = some (.slice (some ⟨D1.v, 0, none⟩) P.n D1.cv) ∧ A.cell? ⟨K9, 1, none⟩ = some (.slice (some ⟨D1.l, 0, none⟩) P.n D1.cl) ∧ A.cell? ⟨K9, 2, none⟩ = some (.slice (some ⟨D1.n, 0, none⟩) P.n D1.cn) ∧ A.cell? ⟨K9, 3, none⟩ = some (.slice (some ⟨D1.p, 0, none⟩) P.n D1.cp) ∧ A.cell? ⟨K9, 4, none⟩ = some (.slice (some ⟨D1.f, 0, none⟩) P.m D1.cf) ∧ A.cell? ⟨K9, 5, none⟩ = some (.slice (some ⟨D1.a, 0, none⟩) P.m D1.ca)) := Lib.hid (fun A hb => by
        have hx := KBOX.out A _ _ (HU4.out.below hb)
        exact ⟨row_cell hx rfl, row_cell hx rfl, row_cell hx rfl, row_cell hx rfl, row_cell hx rfl, row_cell hx rfl⟩)
      have sa := KEEPa.out w4.drew HDa.out
      have CSa := Lib.hid (fun U (hb : Below w4.heap.size w4 U) => save_any (HU4.out.below hb).pool)
      go_region_held3 (fun Wx => Wx.cell? ⟨K9, 0, none⟩ = some (.slice (some ⟨D1.v, 0, none⟩) P.n D1.cv) ∧ Wx.cell? ⟨K9, 1, none⟩ = some (.slice (some ⟨D1.l, 0, none⟩) P.n D1.cl) ∧ Wx.cell? ⟨K9, 2, none⟩ = some (.slice (some ⟨D1.n, 0, none⟩) P.n D1.cn) ∧ Wx.cell? ⟨K9, 3, none⟩ = some (.slice (some ⟨D1.p, 0, none⟩) P.n D1.cp) ∧ Wx.cell? ⟨K9, 4, none⟩ = some (.slice (some ⟨D1.f, 0, none⟩) P.m D1.cf) ∧ Wx.cell? ⟨K9, 5, none⟩ = some (.slice (some ⟨D1.a, 0, none⟩) P.m D1.ca)) (first | with_reducible exact sa | with_reducible exact KEEPa.out _ HKa.out) (first
        | (go_at_call 16; refine (CSa.out _ HDa.out).mono ?_; rintro e zs ⟨D2, F2, rfl, hR, hF⟩
           have hb := hR.old
           have CCa := Lib.hid (SAME.out _ HU4.out _ _ _ _ HDa.out hR hF)
           have HKa := Lib.hid (HDa.out.trans (hb.mono HDa.out.size))
           clear CSa hR hF hb
           unfold stV slc at *)
        | (go_at_call 19; refine CCa.out.mono ?_; rintro e zt ⟨rfl, hb⟩
           have HKa := Lib.hid (HKa.out.trans (hb.mono HKa.out.size))
           clear CCa hb))
      have HU6 := Lib.hid (HU4.out.below HKa.out)
      clear HDa KEEPa sa HKa HU4 
      have hy6 := YBOX2.out _ _ _ HU6.out
      have b1 := row_cell (i := 1) hy6 rfl; have b2 := row_cell (i := 2) hy6 rfl; have b3 := row_cell (i := 3) hy6 rfl; have b4 := row_cell (i := 4) hy6 rfl
      have CQ := CA2.out _ HU6.out
      rw [eA] at CQ
      have CQ := Lib.hid CQ
      clear hy6
      clear eA
      go_wp2_with fail
      refine CQ.out.mono ?_
      rintro e w7 ⟨rfl, hp, hb⟩
      have HU7 := Lib.hid (HU6.out.step HLT.out hp hb)
      clear hp hb CQ b1 b2 b3 b4
      go_wp2_with fail
      have HDz := Lib.hid ((Below.refl w7.heap.size w7).drew)
      have KEEPz : Hid (∀ A, Below w7.heap.size w7 A → A.cell? ⟨K9, 0, none⟩ = some (.slice (some ⟨D1.v, 0, none⟩) P.n D1.cv) ∧ A.cell? ⟨K9, 1, none⟩ = some (.slice (some ⟨D1.l, 0, none⟩) P.n D1.cl) ∧ A.cell? ⟨K9, 2, none⟩ = some (.slice (some ⟨D1.n, 0, none⟩) P.n D1.cn) ∧ A.cell? ⟨K9, 3, none⟩ = some (.slice (some ⟨D1.p, 0, none⟩) P.n D1.cp) ∧ A.cell? ⟨K9, 4, none⟩ = some (.slice (some ⟨D1.f, 0, none⟩) P.m D1.cf) ∧ A.cell? ⟨K9, 5, none⟩ = some (.slice (some ⟨D1.a, 0, none⟩) P.m D1.ca)) := Lib.hid (fun A hb => by
        have hx := KBOX.out A _ _ (HU7.out.below hb)
        exact ⟨row_cell hx rfl, row_cell hx rfl, row_cell hx rfl, row_cell hx rfl, row_cell hx rfl, row_cell hx rfl⟩)
      have sz := KEEPz.out w7.drew HDz.out
      have CSz := Lib.hid (fun U (hb : Below w7.heap.size w7 U) => save_any (HU7.out.below hb).pool)
      go_region_held3 (fun Wx => Wx.cell? ⟨K9, 0, none⟩ = some (.slice (some ⟨D1.v, 0, none⟩) P.n D1.cv) ∧ Wx.cell? ⟨K9, 1, none⟩ = some (.slice (some ⟨D1.l, 0, none⟩) P.n D1.cl) ∧ Wx.cell? ⟨K9, 2, none⟩ = some (.slice (some ⟨D1.n, 0, none⟩) P.n D1.cn) ∧ Wx.cell? ⟨K9, 3, none⟩ = some (.slice (some ⟨D1.p, 0, none⟩) P.n D1.cp) ∧ Wx.cell? ⟨K9, 4, none⟩ = some (.slice (some ⟨D1.f, 0, none⟩) P.m D1.cf) ∧ Wx.cell? ⟨K9, 5, none⟩ = some (.slice (some ⟨D1.a, 0, none⟩) P.m D1.ca)) (first | with_reducible exact sz | with_reducible exact KEEPz.out _ HKz.out) (first
        | (go_at_call 16; refine (CSz.out _ HDz.out).mono ?_; rintro e zs ⟨D2, F2, rfl, hR, hF⟩
           have hb := hR.old
           have CCz := Lib.hid (SAME.out _ HU7.out _ _ _ _ HDz.out hR hF)
           have HKz := Lib.hid (HDz.out.trans (hb.mono HDz.out.size))
           clear CSz hR hF hb
           unfold stV slc at *)
        | (go_at_call 19; refine CCz.out.mono ?_; rintro e zt ⟨rfl, hb⟩
           have HKz := Lib.hid (HKz.out.trans (hb.mono HKz.out.size))
           clear CCz hb)
        | (go_at_call 9; refine (CA.out _).mono ?_; rintro e zu ⟨rfl, hb⟩
           have HKz := Lib.hid (HKz.out.trans (hb.mono HKz.out.size))
           clear hb))
      go_wp2_with fail
      go_ret
      exact ⟨rfl, by rw [hK0]; exact HW1.out.trans (((HU7.out.below HKz.out).old).mono (by have := HW1.out.size; omega))⟩
    · have hfz2 := hfz
      rw [eX] at CP
      have CP := Lib.hid CP
      clear eX hfz
      refine CP.out.mono ?_
      rintro e w4 ⟨rfl, hp, hb⟩
      have HU4 := Lib.hid (HU3.out.step HLT.out hp hb)
      clear hp hb CP
      go_wp2_with fail
      have HDa := Lib.hid ((Below.refl w4.heap.size w4).drew)
      have KEEPa : Hid (∀ A, Below w4.heap.size w4 A → A.cell? ⟨K9, 0, none⟩ = some (.slice (some ⟨D1.v, 0, none⟩) P.n D1.cv) ∧ A.cell? ⟨K9, 1, none⟩ = some (.slice (some ⟨D1.l, 0, none⟩) P.n D1.cl) ∧ A.cell? ⟨K9, 2, none⟩ = some (.slice (some ⟨D1.n, 0, none⟩) P.n D1.cn) ∧ A.cell? ⟨K9, 3, none⟩ = some (.slice (some ⟨D1.p, 0, none⟩) P.n D1.cp) ∧ A.cell? ⟨K9, 4, none⟩ = some (.slice (some ⟨D1.f, 0, none⟩) P.m D1.cf) ∧ A.cell? ⟨K9, 5, none⟩ = some (.slice (some ⟨D1.a, 0, none⟩) P.m D1.ca)) := Lib.hid (fun A hb => by
        have hx := KBOX.out A _ _ (HU4.out.below hb)
        exact ⟨row_cell hx rfl, row_cell hx rfl, row_cell hx rfl, row_cell hx rfl, row_cell hx rfl, row_cell hx rfl⟩)
      have sa := KEEPa.out w4.drew HDa.out
      have CSa := Lib.hid (fun U (hb : Below w4.heap.size w4 U) => save_any (HU4.out.below hb).pool)
      go_region_held3 (fun Wx => Wx.cell? ⟨K9, 0, none⟩ = some (.slice (some ⟨D1.v, 0, none⟩) P.n D1.cv) ∧ Wx.cell? ⟨K9, 1, none⟩ = some (.slice (some ⟨D1.l, 0, none⟩) P.n D1.cl) ∧ Wx.cell? ⟨K9, 2, none⟩ = some (.slice (some ⟨D1.n, 0, none⟩) P.n D1.cn) ∧ Wx.cell? ⟨K9, 3, none⟩ = some (.slice (some ⟨D1.p, 0, none⟩) P.n D1.cp) ∧ Wx.cell? ⟨K9, 4, none⟩ = some (.slice (some ⟨D1.f, 0, none⟩) P.m D1.cf) ∧ Wx.cell? ⟨K9, 5, none⟩ = some (.slice (some ⟨D1.a, 0, none⟩) P.m D1.ca)) (first | with_reducible exact sa | with_reducible exact KEEPa.out _ HKa.out) (first
        | (go_at_call 16; refine (CSa.out _ HDa.out).mono ?_; rintro e zs ⟨D2, F2, rfl, hR, hF⟩
           have hb := hR.old
           have CCa := Lib.hid (SAME.out _ HU4.out _ _ _ _ HDa.out hR hF)
           have HKa := Lib.hid (HDa.out.trans (hb.mono HDa.out.size))
           clear CSa hR hF hb
           unfold stV slc at *)
        | (go_at_call 19; refine CCa.out.mono ?_; rintro e zt ⟨rfl, hb⟩
           have HKa := Lib.hid (HKa.out.trans (hb.mono HKa.out.size))
           clear CCa hb))
      have HU6 := Lib.hid (HU4.out.below HKa.out)
      clear HDa KEEPa sa HKa HU4 
      have hy6 := YBOX2.out _ _ _ HU6.out
      have b1 := row_cell (i := 1) hy6 rfl; have b2 := row_cell (i := 2) hy6 rfl; have b3 := row_cell (i := 3) hy6 rfl; have b4 := row_cell (i := 4) hy6 rfl
      have CQ := CA2.out _ HU6.out
      rw [eA] at CQ
      have CQ := Lib.hid CQ
      clear hy6
      have hT2 := fun V hp => take_any (W := V) (B := P.B) (n := P.n) (m := P.m) (D := P.D) (v := updF v s2 yc) (of := setOf of i2 (a2 ++ s2 :: b2')) hp (s2 : Int)
      rw [hI2.take yc (hfz2 s2 hI2.sn hI2.fr)] at hT2
      have CT2 := Lib.hid hT2
      have hT3 := fun V hp => step_st (W := V) (B := P.B) (n := P.n) (m := P.m) (D := P.D) (v := updF v s2 yc) (of := setOf of i2 (a2 ++ s2 :: b2')) hp ya false
      rw [hStep] at hT3
      have CT3 := Lib.hid hT3
      have es : ((s2 : Int) != (s2 : Int)) = false := by simp
      clear eA hT2 hT3 hI2 hfz2 hStep
      go_wp2_with fail
      refine CQ.out.mono ?_
      rintro e w7 ⟨rfl, hp, hb⟩
      have HU7 := Lib.hid (HU6.out.step HLT.out hp hb)
      have hy7 := YBOX2.out _ _ _ HU7.out
      clear hp hb CQ b1 b2 b3 b4
      have b1 := row_cell (i := 1) hy7 rfl; have b2 := row_cell (i := 2) hy7 rfl; have b3 := row_cell (i := 3) hy7 rfl; have b4 := row_cell (i := 4) hy7 rfl
      clear hy7
      go_wp2_with fail
      refine (CT3.out _ HU7.out.pool).mono ?_
      rintro e w8 ⟨rfl, rfl⟩
      go_wp2_with fail
      refine (CT2.out _ HU7.out.pool).mono ?_
      rintro e w9 ⟨rfl, hp, hb⟩
      have HU9 := Lib.hid (HU7.out.step HLT.out hp hb)
      have hy9 := YBOX2.out _ _ _ HU9.out
      clear hp hb b1 b2 b3 b4
      have b1 := row_cell (i := 1) hy9 rfl; have b2 := row_cell (i := 2) hy9 rfl; have b3 := row_cell (i := 3) hy9 rfl; have b4 := row_cell (i := 4) hy9 rfl
      clear hy9
      go_wp2_with fail
      have HDz := Lib.hid ((Below.refl w9.heap.size w9).drew)
      have KEEPz : Hid (∀ A, Below w9.heap.size w9 A → A.cell? ⟨K9, 0, none⟩ = some (.slice (some ⟨D1.v, 0, none⟩) P.n D1.cv) ∧ A.cell? ⟨K9, 1, none⟩ = some (.slice (some ⟨D1.l, 0, none⟩) P.n D1.cl) ∧ A.cell? ⟨K9, 2, none⟩ = some (.slice (some ⟨D1.n, 0, none⟩) P.n D1.cn) ∧ A.cell? ⟨K9, 3, none⟩ = some (.slice (some ⟨D1.p, 0, none⟩) P.n D1.cp) ∧ A.cell? ⟨K9, 4, none⟩ = some (.slice (some ⟨D1.f, 0, none⟩) P.m D1.cf) ∧ A.cell? ⟨K9, 5, none⟩ = some (.slice (some ⟨D1.a, 0, none⟩) P.m D1.ca)) := Lib.hid (fun A hb => by
        have hx := KBOX.out A _ _ (HU9.out.below hb)
        exact ⟨row_cell hx rfl, row_cell hx rfl, row_cell hx rfl, row_cell hx rfl, row_cell hx rfl, row_cell hx rfl⟩)
      have sz := KEEPz.out w9.drew HDz.out
      have CSz := Lib.hid (fun U (hb : Below w9.heap.size w9 U) => save_any (HU9.out.below hb).pool)
      go_region_held3 (fun Wx => Wx.cell? ⟨K9, 0, none⟩ = some (.slice (some ⟨D1.v, 0, none⟩) P.n D1.cv) ∧ Wx.cell? ⟨K9, 1, none⟩ = some (.slice (some ⟨D1.l, 0, none⟩) P.n D1.cl) ∧ Wx.cell? ⟨K9, 2, none⟩ = some (.slice (some ⟨D1.n, 0, none⟩) P.n D1.cn) ∧ Wx.cell? ⟨K9, 3, none⟩ = some (.slice (some ⟨D1.p, 0, none⟩) P.n D1.cp) ∧ Wx.cell? ⟨K9, 4, none⟩ = some (.slice (some ⟨D1.f, 0, none⟩) P.m D1.cf) ∧ Wx.cell? ⟨K9, 5, none⟩ = some (.slice (some ⟨D1.a, 0, none⟩) P.m D1.ca)) (first | with_reducible exact sz | with_reducible exact KEEPz.out _ HKz.out) (first
        | (go_at_call 16; refine (CSz.out _ HDz.out).mono ?_; rintro e zs ⟨D2, F2, rfl, hR, hF⟩
           have hb := hR.old
           have CCz := Lib.hid (SAME.out _ HU9.out _ _ _ _ HDz.out hR hF)
           have HKz := Lib.hid (HDz.out.trans (hb.mono HDz.out.size))
           clear CSz hR hF hb
           unfold stV slc at *)
        | (go_at_call 19; refine CCz.out.mono ?_; rintro e zt ⟨rfl, hb⟩
           have HKz := Lib.hid (HKz.out.trans (hb.mono HKz.out.size))
           clear CCz hb)
        | (go_at_call 9; refine (CA.out _).mono ?_; rintro e zu ⟨rfl, hb⟩
           have HKz := Lib.hid (HKz.out.trans (hb.mono HKz.out.size))
           clear hb))
      go_wp2_with fail
      go_ret
      exact ⟨rfl, by rw [hK0]; exact HW1.out.trans (((HU9.out.below HKz.out).old).mono (by have := HW1.out.size; omega))⟩
  · rcases hafter with ⟨ea, hea, eA⟩ | ⟨s2, i2, a2, b2', hI2, eA, hStep⟩
    · rw [eX] at CP
      have CP := Lib.hid CP
      have hT := fun V hp => take_any (W := V) (B := P.B) (n := P.n) (m := P.m) (D := P.D) (v := updF v s yc) (of := setOf of i (a ++ s :: b)) hp (s : Int)
      rw [hI.take yc (hfz s hI.sn hI.fr)] at hT
      have CT := Lib.hid hT
      clear eX hT hI hfz
      refine CP.out.mono ?_
      rintro e w4 ⟨rfl, hp, hb⟩
      have HU4 := Lib.hid (HU3.out.step HLT.out hp hb)
      clear hp hb CP
      go_wp2_with fail
      refine (CT.out _ HU4.out.pool).mono ?_
      rintro e w5 ⟨rfl, hp, hb⟩
      have HU5 := Lib.hid (HU4.out.step HLT.out hp hb)
      have hy5 := YBOX2.out _ _ _ HU5.out
      have b1 := row_cell (i := 1) hy5 rfl; have b2 := row_cell (i := 2) hy5 rfl; have b3 := row_cell (i := 3) hy5 rfl; have b4 := row_cell (i := 4) hy5 rfl
      clear hp hb CT hy5
      go_wp2_with fail
      have HDa := Lib.hid ((Below.refl w5.heap.size w5).drew)
      have KEEPa : Hid (∀ A, Below w5.heap.size w5 A → A.cell? ⟨K9, 0, none⟩ = some (.slice (some ⟨D1.v, 0, none⟩) P.n D1.cv) ∧ A.cell? ⟨K9, 1, none⟩ = some (.slice (some ⟨D1.l, 0, none⟩) P.n D1.cl) ∧ A.cell? ⟨K9, 2, none⟩ = some (.slice (some ⟨D1.n, 0, none⟩) P.n D1.cn) ∧ A.cell? ⟨K9, 3, none⟩ = some (.slice (some ⟨D1.p, 0, none⟩) P.n D1.cp) ∧ A.cell? ⟨K9, 4, none⟩ = some (.slice (some ⟨D1.f, 0, none⟩) P.m D1.cf) ∧ A.cell? ⟨K9, 5, none⟩ = some (.slice (some ⟨D1.a, 0, none⟩) P.m D1.ca)) := Lib.hid (fun A hb => by
        have hx := KBOX.out A _ _ (HU5.out.below hb)
        exact ⟨row_cell hx rfl, row_cell hx rfl, row_cell hx rfl, row_cell hx rfl, row_cell hx rfl, row_cell hx rfl⟩)
      have sa := KEEPa.out w5.drew HDa.out
      have CSa := Lib.hid (fun U (hb : Below w5.heap.size w5 U) => save_any (HU5.out.below hb).pool)
      go_region_held3 (fun Wx => Wx.cell? ⟨K9, 0, none⟩ = some (.slice (some ⟨D1.v, 0, none⟩) P.n D1.cv) ∧ Wx.cell? ⟨K9, 1, none⟩ = some (.slice (some ⟨D1.l, 0, none⟩) P.n D1.cl) ∧ Wx.cell? ⟨K9, 2, none⟩ = some (.slice (some ⟨D1.n, 0, none⟩) P.n D1.cn) ∧ Wx.cell? ⟨K9, 3, none⟩ = some (.slice (some ⟨D1.p, 0, none⟩) P.n D1.cp) ∧ Wx.cell? ⟨K9, 4, none⟩ = some (.slice (some ⟨D1.f, 0, none⟩) P.m D1.cf) ∧ Wx.cell? ⟨K9, 5, none⟩ = some (.slice (some ⟨D1.a, 0, none⟩) P.m D1.ca)) (first | with_reducible exact sa | with_reducible exact KEEPa.out _ HKa.out) (first
        | (go_at_call 16; refine (CSa.out _ HDa.out).mono ?_; rintro e zs ⟨D2, F2, rfl, hR, hF⟩
           have hb := hR.old
           have CCa := Lib.hid (SAME.out _ HU5.out _ _ _ _ HDa.out hR hF)
           have HKa := Lib.hid (HDa.out.trans (hb.mono HDa.out.size))
           clear CSa hR hF hb
           unfold stV slc at *)
        | (go_at_call 19; refine CCa.out.mono ?_; rintro e zt ⟨rfl, hb⟩
           have HKa := Lib.hid (HKa.out.trans (hb.mono HKa.out.size))
           clear CCa hb))
      have HU6 := Lib.hid (HU5.out.below HKa.out)
      clear HDa KEEPa sa HKa HU5 b1 b2 b3 b4
      have hy6 := YBOX2.out _ _ _ HU6.out
      have b1 := row_cell (i := 1) hy6 rfl; have b2 := row_cell (i := 2) hy6 rfl; have b3 := row_cell (i := 3) hy6 rfl; have b4 := row_cell (i := 4) hy6 rfl
      have CQ := CA2.out _ HU6.out
      rw [eA] at CQ
      have CQ := Lib.hid CQ
      clear hy6
      clear eA
      go_wp2_with fail
      refine CQ.out.mono ?_
      rintro e w7 ⟨rfl, hp, hb⟩
      have HU7 := Lib.hid (HU6.out.step HLT.out hp hb)
      clear hp hb CQ b1 b2 b3 b4
      go_wp2_with fail
      have HDz := Lib.hid ((Below.refl w7.heap.size w7).drew)
      have KEEPz : Hid (∀ A, Below w7.heap.size w7 A → A.cell? ⟨K9, 0, none⟩ = some (.slice (some ⟨D1.v, 0, none⟩) P.n D1.cv) ∧ A.cell? ⟨K9, 1, none⟩ = some (.slice (some ⟨D1.l, 0, none⟩) P.n D1.cl) ∧ A.cell? ⟨K9, 2, none⟩ = some (.slice (some ⟨D1.n, 0, none⟩) P.n D1.cn) ∧ A.cell? ⟨K9, 3, none⟩ = some (.slice (some ⟨D1.p, 0, none⟩) P.n D1.cp) ∧ A.cell? ⟨K9, 4, none⟩ = some (.slice (some ⟨D1.f, 0, none⟩) P.m D1.cf) ∧ A.cell? ⟨K9, 5, none⟩ = some (.slice (some ⟨D1.a, 0, none⟩) P.m D1.ca)) := Lib.hid (fun A hb => by
        have hx := KBOX.out A _ _ (HU7.out.below hb)
        exact ⟨row_cell hx rfl, row_cell hx rfl, row_cell hx rfl, row_cell hx rfl, row_cell hx rfl, row_cell hx rfl⟩)
      have sz := KEEPz.out w7.drew HDz.out
      have CSz := Lib.hid (fun U (hb : Below w7.heap.size w7 U) => save_any (HU7.out.below hb).pool)
      go_region_held3 (fun Wx => Wx.cell? ⟨K9, 0, none⟩ = some (.slice (some ⟨D1.v, 0, none⟩) P.n D1.cv) ∧ Wx.cell? ⟨K9, 1, none⟩ = some (.slice (some ⟨D1.l, 0, none⟩) P.n D1.cl) ∧ Wx.cell? ⟨K9, 2, none⟩ = some (.slice (some ⟨D1.n, 0, none⟩) P.n D1.cn) ∧ Wx.cell? ⟨K9, 3, none⟩ = some (.slice (some ⟨D1.p, 0, none⟩) P.n D1.cp) ∧ Wx.cell? ⟨K9, 4, none⟩ = some (.slice (some ⟨D1.f, 0, none⟩) P.m D1.cf) ∧ Wx.cell? ⟨K9, 5, none⟩ = some (.slice (some ⟨D1.a, 0, none⟩) P.m D1.ca)) (first | with_reducible exact sz | with_reducible exact KEEPz.out _ HKz.out) (first
        | (go_at_call 16; refine (CSz.out _ HDz.out).mono ?_; rintro e zs ⟨D2, F2, rfl, hR, hF⟩
           have hb := hR.old
           have CCz := Lib.hid (SAME.out _ HU7.out _ _ _ _ HDz.out hR hF)
           have HKz := Lib.hid (HDz.out.trans (hb.mono HDz.out.size))
           clear CSz hR hF hb
           unfold stV slc at *)
        | (go_at_call 19; refine CCz.out.mono ?_; rintro e zt ⟨rfl, hb⟩
           have HKz := Lib.hid (HKz.out.trans (hb.mono HKz.out.size))
           clear CCz hb)
        | (go_at_call 9; refine (CA.out _).mono ?_; rintro e zu ⟨rfl, hb⟩
           have HKz := Lib.hid (HKz.out.trans (hb.mono HKz.out.size))
           clear hb))
      go_wp2_with fail
      go_ret
      exact ⟨rfl, by rw [hK0]; exact HW1.out.trans (((HU7.out.below HKz.out).old).mono (by have := HW1.out.size; omega))⟩
    · have hfz2 := hfz
      rw [eX] at CP
      have CP := Lib.hid CP
      have hT := fun V hp => take_any (W := V) (B := P.B) (n := P.n) (m := P.m) (D := P.D) (v := updF v s yc) (of := setOf of i (a ++ s :: b)) hp (s : Int)
      rw [hI.take yc (hfz s hI.sn hI.fr)] at hT
      have CT := Lib.hid hT
      clear eX hT hI hfz
      refine CP.out.mono ?_
      rintro e w4 ⟨rfl, hp, hb⟩
      have HU4 := Lib.hid (HU3.out.step HLT.out hp hb)
      clear hp hb CP
      go_wp2_with fail
      refine (CT.out _ HU4.out.pool).mono ?_
      rintro e w5 ⟨rfl, hp, hb⟩
      have HU5 := Lib.hid (HU4.out.step HLT.out hp hb)
      have hy5 := YBOX2.out _ _ _ HU5.out
      have b1 := row_cell (i := 1) hy5 rfl; have b2 := row_cell (i := 2) hy5 rfl; have b3 := row_cell (i := 3) hy5 rfl; have b4 := row_cell (i := 4) hy5 rfl
      clear hp hb CT hy5
      go_wp2_with fail
      have HDa := Lib.hid ((Below.refl w5.heap.size w5).drew)
      have KEEPa : Hid (∀ A, Below w5.heap.size w5 A → A.cell? ⟨K9, 0, none⟩ = some (.slice (some ⟨D1.v, 0, none⟩) P.n D1.cv) ∧ A.cell? ⟨K9, 1, none⟩ = some (.slice (some ⟨D1.l, 0, none⟩) P.n D1.cl) ∧ A.cell? ⟨K9, 2, none⟩ = some (.slice (some ⟨D1.n, 0, none⟩) P.n D1.cn) ∧ A.cell? ⟨K9, 3, none⟩ = some (.slice (some ⟨D1.p, 0, none⟩) P.n D1.cp) ∧ A.cell? ⟨K9, 4, none⟩ = some (.slice (some ⟨D1.f, 0, none⟩) P.m D1.cf) ∧ A.cell? ⟨K9, 5, none⟩ = some (.slice (some ⟨D1.a, 0, none⟩) P.m D1.ca)) := Lib.hid (fun A hb => by
        have hx := KBOX.out A _ _ (HU5.out.below hb)
        exact ⟨row_cell hx rfl, row_cell hx rfl, row_cell hx rfl, row_cell hx rfl, row_cell hx rfl, row_cell hx rfl⟩)
      have sa := KEEPa.out w5.drew HDa.out
      have CSa := Lib.hid (fun U (hb : Below w5.heap.size w5 U) => save_any (HU5.out.below hb).pool)
      go_region_held3 (fun Wx => Wx.cell? ⟨K9, 0, none⟩ = some (.slice (some ⟨D1.v, 0, none⟩) P.n D1.cv) ∧ Wx.cell? ⟨K9, 1, none⟩ = some (.slice (some ⟨D1.l, 0, none⟩) P.n D1.cl) ∧ Wx.cell? ⟨K9, 2, none⟩ = some (.slice (some ⟨D1.n, 0, none⟩) P.n D1.cn) ∧ Wx.cell? ⟨K9, 3, none⟩ = some (.slice (some ⟨D1.p, 0, none⟩) P.n D1.cp) ∧ Wx.cell? ⟨K9, 4, none⟩ = some (.slice (some ⟨D1.f, 0, none⟩) P.m D1.cf) ∧ Wx.cell? ⟨K9, 5, none⟩ = some (.slice (some ⟨D1.a, 0, none⟩) P.m D1.ca)) (first | with_reducible exact sa | with_reducible exact KEEPa.out _ HKa.out) (first
        | (go_at_call 16; refine (CSa.out _ HDa.out).mono ?_; rintro e zs ⟨D2, F2, rfl, hR, hF⟩
           have hb := hR.old
           have CCa := Lib.hid (SAME.out _ HU5.out _ _ _ _ HDa.out hR hF)
           have HKa := Lib.hid (HDa.out.trans (hb.mono HDa.out.size))
           clear CSa hR hF hb
           unfold stV slc at *)
        | (go_at_call 19; refine CCa.out.mono ?_; rintro e zt ⟨rfl, hb⟩
           have HKa := Lib.hid (HKa.out.trans (hb.mono HKa.out.size))
           clear CCa hb))
      have HU6 := Lib.hid (HU5.out.below HKa.out)
      clear HDa KEEPa sa HKa HU5 b1 b2 b3 b4
      have hy6 := YBOX2.out _ _ _ HU6.out
      have b1 := row_cell (i := 1) hy6 rfl; have b2 := row_cell (i := 2) hy6 rfl; have b3 := row_cell (i := 3) hy6 rfl; have b4 := row_cell (i := 4) hy6 rfl
      have CQ := CA2.out _ HU6.out
      rw [eA] at CQ
      have CQ := Lib.hid CQ
      clear hy6
      have hT2 := fun V hp => take_any (W := V) (B := P.B) (n := P.n) (m := P.m) (D := P.D) (v := updF v s2 yc) (of := setOf of i2 (a2 ++ s2 :: b2')) hp (s2 : Int)
      rw [hI2.take yc (hfz2 s2 hI2.sn hI2.fr)] at hT2
      have CT2 := Lib.hid hT2
      have hT3 := fun V hp => step_st (W := V) (B := P.B) (n := P.n) (m := P.m) (D := P.D) (v := updF v s2 yc) (of := setOf of i2 (a2 ++ s2 :: b2')) hp ya false
      rw [hStep] at hT3
      have CT3 := Lib.hid hT3
      have es : ((s2 : Int) != (s2 : Int)) = false := by simp
      clear eA hT2 hT3 hI2 hfz2 hStep
      go_wp2_with fail
      refine CQ.out.mono ?_
      rintro e w7 ⟨rfl, hp, hb⟩
      have HU7 := Lib.hid (HU6.out.step HLT.out hp hb)
      have hy7 := YBOX2.out _ _ _ HU7.out
      clear hp hb CQ b1 b2 b3 b4
      have b1 := row_cell (i := 1) hy7 rfl; have b2 := row_cell (i := 2) hy7 rfl; have b3 := row_cell (i := 3) hy7 rfl; have b4 := row_cell (i := 4) hy7 rfl
      clear hy7
      go_wp2_with fail
      refine (CT3.out _ HU7.out.pool).mono ?_
      rintro e w8 ⟨rfl, rfl⟩
      go_wp2_with fail
      refine (CT2.out _ HU7.out.pool).mono ?_
      rintro e w9 ⟨rfl, hp, hb⟩
      have HU9 := Lib.hid (HU7.out.step HLT.out hp hb)
      have hy9 := YBOX2.out _ _ _ HU9.out
      clear hp hb b1 b2 b3 b4
      have b1 := row_cell (i := 1) hy9 rfl; have b2 := row_cell (i := 2) hy9 rfl; have b3 := row_cell (i := 3) hy9 rfl; have b4 := row_cell (i := 4) hy9 rfl
      clear hy9
      go_wp2_with fail
      have HDz := Lib.hid ((Below.refl w9.heap.size w9).drew)
      have KEEPz : Hid (∀ A, Below w9.heap.size w9 A → A.cell? ⟨K9, 0, none⟩ = some (.slice (some ⟨D1.v, 0, none⟩) P.n D1.cv) ∧ A.cell? ⟨K9, 1, none⟩ = some (.slice (some ⟨D1.l, 0, none⟩) P.n D1.cl) ∧ A.cell? ⟨K9, 2, none⟩ = some (.slice (some ⟨D1.n, 0, none⟩) P.n D1.cn) ∧ A.cell? ⟨K9, 3, none⟩ = some (.slice (some ⟨D1.p, 0, none⟩) P.n D1.cp) ∧ A.cell? ⟨K9, 4, none⟩ = some (.slice (some ⟨D1.f, 0, none⟩) P.m D1.cf) ∧ A.cell? ⟨K9, 5, none⟩ = some (.slice (some ⟨D1.a, 0, none⟩) P.m D1.ca)) := Lib.hid (fun A hb => by
        have hx := KBOX.out A _ _ (HU9.out.below hb)
        exact ⟨row_cell hx rfl, row_cell hx rfl, row_cell hx rfl, row_cell hx rfl, row_cell hx rfl, row_cell hx rfl⟩)
      have sz := KEEPz.out w9.drew HDz.out
      have CSz := Lib.hid (fun U (hb : Below w9.heap.size w9 U) => save_any (HU9.out.below hb).pool)
      go_region_held3 (fun Wx => Wx.cell? ⟨K9, 0, none⟩ = some (.slice (some ⟨D1.v, 0, none⟩) P.n D1.cv) ∧ Wx.cell? ⟨K9, 1, none⟩ = some (.slice (some ⟨D1.l, 0, none⟩) P.n D1.cl) ∧ Wx.cell? ⟨K9, 2, none⟩ = some (.slice (some ⟨D1.n, 0, none⟩) P.n D1.cn) ∧ Wx.cell? ⟨K9, 3, none⟩ = some (.slice (some ⟨D1.p, 0, none⟩) P.n D1.cp) ∧ Wx.cell? ⟨K9, 4, none⟩ = some (.slice (some ⟨D1.f, 0, none⟩) P.m D1.cf) ∧ Wx.cell? ⟨K9, 5, none⟩ = some (.slice (some ⟨D1.a, 0, none⟩) P.m D1.ca)) (first | with_reducible exact sz | with_reducible exact KEEPz.out _ HKz.out) (first
        | (go_at_call 16; refine (CSz.out _ HDz.out).mono ?_; rintro e zs ⟨D2, F2, rfl, hR, hF⟩
           have hb := hR.old
           have CCz := Lib.hid (SAME.out _ HU9.out _ _ _ _ HDz.out hR hF)
           have HKz := Lib.hid (HDz.out.trans (hb.mono HDz.out.size))
           clear CSz hR hF hb
           unfold stV slc at *)
        | (go_at_call 19; refine CCz.out.mono ?_; rintro e zt ⟨rfl, hb⟩
           have HKz := Lib.hid (HKz.out.trans (hb.mono HKz.out.size))
           clear CCz hb)
        | (go_at_call 9; refine (CA.out _).mono ?_; rintro e zu ⟨rfl, hb⟩
           have HKz := Lib.hid (HKz.out.trans (hb.mono HKz.out.size))
           clear hb))
      go_wp2_with fail
      go_ret
      exact ⟨rfl, by rw [hK0]; exact HW1.out.trans (((HU9.out.below HKz.out).old).mono (by have := HW1.out.size; omega))⟩
theorem undo_walk {W : World} {p : Option Addr} {len cap : Nat} (hx : CallsAt W p len) (s yw ya yb yc : Int) (yf : Bool) :
    Calls Try.prog 7 #[.int .i64 s, .slice p len cap, callV yw ya yb yc yf] W (TruePost W) := by
  by_cases h : s < 1 ∨ 60 < s ∨ 60 < (len : Int)
  · exact undo_far s yw ya yb yc yf h
  · obtain ⟨n, rfl⟩ : ∃ n : Nat, s = (n : Int) := ⟨s.toNat, by omega⟩
    exact undo_near (by omega) (by omega) hx yw ya yb yc yf
end Go.Proofs.Ytnbniflljbbpbaa
