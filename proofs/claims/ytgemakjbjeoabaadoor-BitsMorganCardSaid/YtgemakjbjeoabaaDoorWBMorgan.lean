/- BitsMorgan: the walk. -/
import Derived.Test.YtgemakjbjeoabaaDoorBtMorgan
namespace Go.Proofs.YtgemakjbjeoabaaDoor
open Go.RowKit Go.Shelf

theorem part_boxes (w : World) (a0 a1 b0 b1 x y z : Value) : Below w.heap.size w (((w.alloc (.cells #[a0, a1] 24)).alloc (.cells #[b0, b1] 24)).alloc (.cells #[x, y, z] 26)) ∧
    Res2 (((w.alloc (.cells #[a0, a1] 24)).alloc (.cells #[b0, b1] 24)).alloc (.cells #[x, y, z] 26)) w.heap.size a0 a1 ∧
    Res2 (((w.alloc (.cells #[a0, a1] 24)).alloc (.cells #[b0, b1] 24)).alloc (.cells #[x, y, z] 26)) (w.heap.size + 1) b0 b1 ∧
    Res3 (((w.alloc (.cells #[a0, a1] 24)).alloc (.cells #[b0, b1] 24)).alloc (.cells #[x, y, z] 26)) (w.heap.size + 1 + 1) x y z := by
  obtain ⟨h1, h2, h3, h4, h5⟩ := alloc3 w (.cells #[a0, a1] 24) (.cells #[b0, b1] 24) (.cells #[x, y, z] 26)
  exact ⟨h1, ⟨row_cell h3 rfl, row_cell h3 rfl, row_free h3, row_free h3, by rw [h2]; omega⟩, ⟨row_cell h4 rfl, row_cell h4 rfl, row_free h4, row_free h4, by rw [h2]; omega⟩, ⟨row_cell h5 rfl, row_cell h5 rfl, row_cell h5 rfl, by rw [h2]; omega⟩⟩

set_option maxHeartbeats 16000000 in
set_option maxRecDepth 100000 in
theorem morgan_good (m : Nat) (p : Option Addr) (cap : Nat) (A : List Nat) (p' : Option Addr) (cap' : Nat) (B : List Nat) (i j : Nat) (on : Bool) (w : World) (h : WordsAt w p A) (h' : WordsAt w p' B) (he : BEnv w) (hv : Valid m A) (hv' : Valid m B) (h1 : i ≤ j) (h2 : j ≤ m) :
    Calls Tryd.prog 10 #[.agg #[.int .i64 (m : Int), .slice p A.length cap], .agg #[.int .i64 (m : Int), .slice p' B.length cap'], .agg #[.int .i64 (i : Int), .int .i64 (j : Int), .bool on]] w (TruePost w) := by
  have hm := hv.le
  have ck := fun W (hW : Below w.heap.size w W) => rcheck_any m p cap A W (h.below hW)
  have cl := fun W (hW : Below w.heap.size w W) => rcheck_any m p' cap' B W (h'.below hW)
  rw [checkR_of hv] at ck
  rw [checkR_of hv'] at cl
  have CA := Lib.hid (fun W (hW : Below w.heap.size w W) => awake_any W (he.below hW))
  obtain ⟨P0, P, U, V, D, N, R, S, g1, g2, g3, g4, g5, g6, g7, g8, g9, g10, g11, g12, g13, g14⟩ := morgan_facts hv hv' h1 h2 on
  obtain ⟨T, hT⟩ : ∃ T, T = packR m fun x => bitN A x && !bitN R x := ⟨_, rfl⟩
  rw [← hT] at g12 g13
  have kc1 := Lib.hid (fun W q c q' c' (h : WordsAt W q A) (h' : WordsAt W q' B) => (and_any m q c A m q' c' B W h h').mono fun _ _ h => btOk g1 h.post)
  have kc2 := Lib.hid (fun W q c (h : WordsAt W q P0) => (flip_any m q c P0 W h).mono fun _ _ h => btOkN g2 h)
  have kc3 := Lib.hid (fun W q c (h : WordsAt W q A) => (flip_any m q c A W h).mono fun _ _ h => btOk g3 h.post)
  have kc4 := Lib.hid (fun W q c (h : WordsAt W q B) => (flip_any m q c B W h).mono fun _ _ h => btOk g4 h.post)
  have kc5 := Lib.hid (fun W q c q' c' (h : WordsAt W q U) (h' : WordsAt W q' V) => (or_any m q c U m q' c' V W h h').mono fun _ _ h => btOk g5 h.post)
  have kc6 := Lib.hid (fun W q c q' c' (h : WordsAt W q A) (h' : WordsAt W q' B) => (less_any m q c A m q' c' B W h h').mono fun _ _ h => btOk g6 h.post)
  have kc7 := Lib.hid (fun W q c q' c' (h : WordsAt W q A) (h' : WordsAt W q' V) => (and_any m q c A m q' c' V W h h').mono fun _ _ h => btOk g7 h.post)
  have kc8 := Lib.hid (fun W q c (h : WordsAt W q U) => (flip_any m q c U W h).mono fun _ _ h => btOk g8 h.post)
  have kc9 := Lib.hid (fun W => (new_any m false W).mono fun _ _ h => btOk g9 h)
  have kc10 := Lib.hid (fun W q c (h : WordsAt W q N) => (set_any m q c N i j true W h).mono fun _ _ h => btOk g10 h)
  have kc11 := Lib.hid (fun W q c (h : WordsAt W q A) => (set_any m q c A i j on W h).mono fun _ _ h => btOk g11 h)
  have kc12 := Lib.hid (fun W q c q' c' (h : WordsAt W q A) (h' : WordsAt W q' R) => (less_any m q c A m q' c' R W h h').mono fun _ _ h => btOk g12 h.post)
  have kc13 := Lib.hid (fun (ho : on = true) W q c q' c' (h : WordsAt W q A) (h' : WordsAt W q' R) => (or_any m q c A m q' c' R W h h').mono fun _ _ h => btOkN (g14 ho) h)
  have G13 := Lib.hid g13
  have HW := Lib.hid h; have HW' := Lib.hid h'
  have CK := Lib.hid ck; have CL := Lib.hid cl
  clear h h' he hv hv' ck cl g1 g2 g3 g4 g5 g6 g7 g8 g9 g10 g11 g12 g13 g14 hT
  have m4 : (m : Int) ≤ 4096 := by omega
  have e1 : ¬ (i : Int) < 0 := by omega
  have e2 : ¬ (j : Int) < (i : Int) := by omega
  have e3 : ¬ (m : Int) < (j : Int) := by omega
  have e4 : ((m : Int) != (m : Int)) = false := by simp
  have PB := Lib.hid (fun a0 a1 b0 b1 x y z => part_boxes w a0 a1 b0 b1 x y z)
  clear h1 h2 hm
  go_enter Tryd.func10, Tryd.ntmps10
  go_wp2_with fail
  refine (CK.out _ (PB.out _ _ _ _ _ _ _).1).mono ?_
  rintro e w1 ⟨rfl, hb⟩
  have HB1 := Lib.hid ((PB.out _ _ _ _ _ _ _).1.trans (hb.mono (PB.out _ _ _ _ _ _ _).1.size))
  obtain ⟨_, x1, x2, x3⟩ := PB.out (.int .i64 (m : Int)) (.slice p A.length cap) (.int .i64 (m : Int)) (.slice p' B.length cap') (.int .i64 (i : Int)) (.int .i64 (j : Int)) (.bool on)
  have HXA := Lib.hid (x1.below hb); have HXB := Lib.hid (x2.below hb); have HXX := Lib.hid (x3.under hb x3.lt)
  clear hb x1 x2 x3 CK PB
  have k0B := HXB.out.k0; have k1B := HXB.out.k1; have ltB := HXB.out.lt
  go_wp2_with fail
  refine (CL.out _ HB1.out).mono ?_
  rintro e w2 ⟨rfl, hb⟩
  clear k0B k1B ltB
  replace HXA := Lib.hid (HXA.out.below hb)
  replace HXB := Lib.hid (HXB.out.below hb)
  replace HXX := Lib.hid (HXX.out.under hb HXX.out.lt)
  have HB2 := Lib.hid (HB1.out.trans (hb.mono HB1.out.size))
  clear hb
  clear CL
  have k0A := HXA.out.k0; have k1A := HXA.out.k1; have ltA := HXA.out.lt
  have k0B := HXB.out.k0; have k1B := HXB.out.k1; have ltB := HXB.out.lt
  have xk0 := HXX.out.k0; have xk1 := HXX.out.k1; have xk2 := HXX.out.k2; have xlt := HXX.out.lt
  go_wp2_with fail
  refine (kc1.out _ _ _ _ _ (HW.out.below HB2.out) (HW'.out.below HB2.out)).mono ?_
  rintro e w3 ⟨p7, c7, rfl, hwa, hb⟩
  clear k0A k1A ltA k0B k1B ltB xk0 xk1 xk2 xlt
  replace HXA := Lib.hid (HXA.out.below hb)
  replace HXB := Lib.hid (HXB.out.below hb)
  replace HXX := Lib.hid (HXX.out.under hb HXX.out.lt)
  have HB3 := Lib.hid (HB2.out.trans (hb.mono HB2.out.size))
  clear hb
  have HW7 := Lib.hid hwa
  clear hwa
  have HL3 := Lib.hid HXX.out.lt
  go_wp2_with fail
  refine (kc2.out _ _ _ (HW7.out.below (newBox _ _ _ _).1)).mono ?_
  rintro e w4 ⟨p7b, c7b, rfl, hwa, hna, hb⟩
  obtain ⟨hk, hnew⟩ := newBox_then hb
  have HN7b := Lib.hid (fun g off e => Nat.lt_of_lt_of_le (newBox w3 _ _ _).2.lt (hna g off e))
  replace HXA := Lib.hid (HXA.out.below hk)
  replace HXB := Lib.hid (HXB.out.below hk)
  replace HXX := Lib.hid (HXX.out.under hk HXX.out.lt)
  replace HW7 := Lib.hid (HW7.out.below hk)
  have HX7 := Lib.hid hnew
  have HB4 := Lib.hid (HB3.out.trans (hk.mono HB3.out.size))
  clear hb hk hnew hna
  have HW7b := Lib.hid hwa
  clear hwa
  have hz3 : w.heap.size + 1 + 1 < w3.heap.size := HL3.out
  have k0A := HXA.out.k0; have k1A := HXA.out.k1; have ltA := HXA.out.lt
  have k0B := HXB.out.k0; have k1B := HXB.out.k1; have ltB := HXB.out.lt
  have k07 := HX7.out.k0; have k17 := HX7.out.k1; have f07 := HX7.out.f0; have f17 := HX7.out.f1; have lt7 := HX7.out.lt
  go_wp2_with fail
  refine (kc3.out _ _ _ ((HW.out.below HB4.out).under (oldBox HX7.out _ _).1 (fun g off h0 e => by have := HW.out.block_lt g off h0 e; omega))).mono ?_
  rintro e w5 ⟨p10, c10, rfl, hwa, hb⟩
  clear k0A k1A ltA k0B k1B ltB k07 k17 f07 f17 lt7
  obtain ⟨hk, hnew⟩ := oldBox_then HX7.out hb
  replace HXA := Lib.hid (HXA.out.under hk (by omega)); replace HXB := Lib.hid (HXB.out.under hk (by omega)); replace HXX := Lib.hid (HXX.out.under hk (by omega))
  have HW7 := Lib.hid ((HW7b.out.set2 (fun g off e h => by have := HN7b.out g off e; omega) _ _).below hb)
  replace HX7 := Lib.hid hnew
  have HB5 := Lib.hid (HB4.out.trans (hk.mono (by omega)))
  have HW10 := Lib.hid hwa
  clear hb hk hnew hwa hz3 HW7b HN7b
  have k0B := HXB.out.k0; have k1B := HXB.out.k1; have ltB := HXB.out.lt
  go_wp2_with fail
  refine (kc4.out _ _ _ ((HW'.out.below HB5.out).below (newBox _ _ _ _).1)).mono ?_
  rintro e w6 ⟨p12, c12, rfl, hwa, hb⟩
  clear k0B k1B ltB
  obtain ⟨hk, hnew⟩ := newBox_then hb
  replace HXA := Lib.hid (HXA.out.below hk)
  replace HXB := Lib.hid (HXB.out.below hk)
  replace HXX := Lib.hid (HXX.out.under hk HXX.out.lt)
  replace HX7 := Lib.hid (HX7.out.below hk)
  replace HW7 := Lib.hid (HW7.out.below hk)
  replace HW10 := Lib.hid (HW10.out.below hk)
  have HX10 := Lib.hid hnew
  have HB6 := Lib.hid (HB5.out.trans (hk.mono HB5.out.size))
  clear hb hk hnew
  have HW12 := Lib.hid hwa
  clear hwa
  have k010 := HX10.out.k0; have k110 := HX10.out.k1; have lt10 := HX10.out.lt
  go_wp2_with fail
  refine (kc5.out _ _ _ _ _ (HW10.out.below (newBox _ _ _ _).1) (HW12.out.below (newBox _ _ _ _).1)).mono ?_
  rintro e w7 ⟨p14, c14, rfl, hwa, hb⟩
  clear k010 k110 lt10
  obtain ⟨hk, hnew⟩ := newBox_then hb
  replace HXA := Lib.hid (HXA.out.below hk)
  replace HXB := Lib.hid (HXB.out.below hk)
  replace HXX := Lib.hid (HXX.out.under hk HXX.out.lt)
  replace HX7 := Lib.hid (HX7.out.below hk)
  replace HX10 := Lib.hid (HX10.out.below hk)
  replace HW7 := Lib.hid (HW7.out.below hk)
  replace HW10 := Lib.hid (HW10.out.below hk)
  replace HW12 := Lib.hid (HW12.out.below hk)
  have HX12 := Lib.hid hnew
  have HB7 := Lib.hid (HB6.out.trans (hk.mono HB6.out.size))
  clear hb hk hnew
  have HW14 := Lib.hid hwa
  clear hwa
  have k0A := HXA.out.k0; have k1A := HXA.out.k1; have ltA := HXA.out.lt
  have k0B := HXB.out.k0; have k1B := HXB.out.k1; have ltB := HXB.out.lt
  go_wp2_with fail
  refine (kc6.out _ _ _ _ _ ((HW.out.below HB7.out).below (newBox _ _ _ _).1) ((HW'.out.below HB7.out).below (newBox _ _ _ _).1)).mono ?_
  rintro e w8 ⟨p15, c15, rfl, hwa, hb⟩
  clear k0A k1A ltA k0B k1B ltB
  obtain ⟨hk, hnew⟩ := newBox_then hb
  replace HXA := Lib.hid (HXA.out.below hk)
  replace HXB := Lib.hid (HXB.out.below hk)
  replace HXX := Lib.hid (HXX.out.under hk HXX.out.lt)
  replace HX7 := Lib.hid (HX7.out.below hk)
  replace HX10 := Lib.hid (HX10.out.below hk)
  replace HX12 := Lib.hid (HX12.out.below hk)
  replace HW7 := Lib.hid (HW7.out.below hk)
  replace HW10 := Lib.hid (HW10.out.below hk)
  replace HW12 := Lib.hid (HW12.out.below hk)
  replace HW14 := Lib.hid (HW14.out.below hk)
  have HX14 := Lib.hid hnew
  have HB8 := Lib.hid (HB7.out.trans (hk.mono HB7.out.size))
  clear hb hk hnew
  have HW15 := Lib.hid hwa
  clear hwa
  have k0A := HXA.out.k0; have k1A := HXA.out.k1; have ltA := HXA.out.lt
  have k012 := HX12.out.k0; have k112 := HX12.out.k1; have lt12 := HX12.out.lt
  go_wp2_with fail
  refine (kc7.out _ _ _ _ _ ((HW.out.below HB8.out).below (newBox _ _ _ _).1) (HW12.out.below (newBox _ _ _ _).1)).mono ?_
  rintro e w9 ⟨p16, c16, rfl, hwa, hb⟩
  clear k0A k1A ltA k012 k112 lt12
  obtain ⟨hk, hnew⟩ := newBox_then hb
  replace HXA := Lib.hid (HXA.out.below hk)
  replace HXB := Lib.hid (HXB.out.below hk)
  replace HXX := Lib.hid (HXX.out.under hk HXX.out.lt)
  replace HX7 := Lib.hid (HX7.out.below hk)
  replace HX10 := Lib.hid (HX10.out.below hk)
  replace HX12 := Lib.hid (HX12.out.below hk)
  replace HX14 := Lib.hid (HX14.out.below hk)
  replace HW7 := Lib.hid (HW7.out.below hk)
  replace HW10 := Lib.hid (HW10.out.below hk)
  replace HW12 := Lib.hid (HW12.out.below hk)
  replace HW14 := Lib.hid (HW14.out.below hk)
  replace HW15 := Lib.hid (HW15.out.below hk)
  have HX15 := Lib.hid hnew
  have HB9 := Lib.hid (HB8.out.trans (hk.mono HB8.out.size))
  clear hb hk hnew
  have HW16 := Lib.hid hwa
  clear hwa
  have k010 := HX10.out.k0; have k110 := HX10.out.k1; have lt10 := HX10.out.lt
  go_wp2_with fail
  refine (kc8.out _ _ _ (HW10.out.below (newBox _ _ _ _).1)).mono ?_
  rintro e w10 ⟨p17, c17, rfl, hwa, hb⟩
  clear k010 k110 lt10
  obtain ⟨hk, hnew⟩ := newBox_then hb
  replace HXA := Lib.hid (HXA.out.below hk)
  replace HXB := Lib.hid (HXB.out.below hk)
  replace HXX := Lib.hid (HXX.out.under hk HXX.out.lt)
  replace HX7 := Lib.hid (HX7.out.below hk)
  replace HX10 := Lib.hid (HX10.out.below hk)
  replace HX12 := Lib.hid (HX12.out.below hk)
  replace HX14 := Lib.hid (HX14.out.below hk)
  replace HX15 := Lib.hid (HX15.out.below hk)
  replace HW7 := Lib.hid (HW7.out.below hk)
  replace HW10 := Lib.hid (HW10.out.below hk)
  replace HW12 := Lib.hid (HW12.out.below hk)
  replace HW14 := Lib.hid (HW14.out.below hk)
  replace HW15 := Lib.hid (HW15.out.below hk)
  replace HW16 := Lib.hid (HW16.out.below hk)
  have HX16 := Lib.hid hnew
  have HB10 := Lib.hid (HB9.out.trans (hk.mono HB9.out.size))
  clear hb hk hnew
  have HW17 := Lib.hid hwa
  clear hwa
  have k07 := HX7.out.k0; have k17 := HX7.out.k1; have lt7 := HX7.out.lt
  have k014 := HX14.out.k0; have k114 := HX14.out.k1; have lt14 := HX14.out.lt
  go_wp2_with fail
  refine (same_any _ _ _ _ _ _ _ (HW7.out.below (newBox _ _ _ _).1) (HW14.out.below (newBox _ _ _ _).1)).mono ?_
  rintro e w11 ⟨rfl, hb⟩
  clear k07 k17 lt7 k014 k114 lt14
  obtain ⟨hk, hnew⟩ := newBox_then hb
  replace HXA := Lib.hid (HXA.out.below hk)
  replace HXB := Lib.hid (HXB.out.below hk)
  replace HXX := Lib.hid (HXX.out.under hk HXX.out.lt)
  replace HX7 := Lib.hid (HX7.out.below hk)
  replace HX10 := Lib.hid (HX10.out.below hk)
  replace HX12 := Lib.hid (HX12.out.below hk)
  replace HX14 := Lib.hid (HX14.out.below hk)
  replace HX15 := Lib.hid (HX15.out.below hk)
  replace HX16 := Lib.hid (HX16.out.below hk)
  replace HW7 := Lib.hid (HW7.out.below hk)
  replace HW10 := Lib.hid (HW10.out.below hk)
  replace HW12 := Lib.hid (HW12.out.below hk)
  replace HW14 := Lib.hid (HW14.out.below hk)
  replace HW15 := Lib.hid (HW15.out.below hk)
  replace HW16 := Lib.hid (HW16.out.below hk)
  replace HW17 := Lib.hid (HW17.out.below hk)
  have HX17 := Lib.hid hnew
  have HB11 := Lib.hid (HB10.out.trans (hk.mono HB10.out.size))
  clear hb hk hnew
  have k015 := HX15.out.k0; have k115 := HX15.out.k1; have lt15 := HX15.out.lt
  have k016 := HX16.out.k0; have k116 := HX16.out.k1; have lt16 := HX16.out.lt
  go_wp2_with fail
  refine (same_any _ _ _ _ _ _ _ HW15.out HW16.out).mono ?_
  rintro e w12 ⟨rfl, hb⟩
  clear k015 k115 lt15 k016 k116 lt16
  replace HXA := Lib.hid (HXA.out.below hb)
  replace HXB := Lib.hid (HXB.out.below hb)
  replace HXX := Lib.hid (HXX.out.under hb HXX.out.lt)
  replace HX7 := Lib.hid (HX7.out.below hb)
  replace HX10 := Lib.hid (HX10.out.below hb)
  replace HX12 := Lib.hid (HX12.out.below hb)
  replace HX14 := Lib.hid (HX14.out.below hb)
  replace HX15 := Lib.hid (HX15.out.below hb)
  replace HX16 := Lib.hid (HX16.out.below hb)
  replace HX17 := Lib.hid (HX17.out.below hb)
  replace HW7 := Lib.hid (HW7.out.below hb)
  replace HW10 := Lib.hid (HW10.out.below hb)
  replace HW12 := Lib.hid (HW12.out.below hb)
  replace HW14 := Lib.hid (HW14.out.below hb)
  replace HW15 := Lib.hid (HW15.out.below hb)
  replace HW16 := Lib.hid (HW16.out.below hb)
  replace HW17 := Lib.hid (HW17.out.below hb)
  have HB12 := Lib.hid (HB11.out.trans (hb.mono HB11.out.size))
  clear hb
  have k017 := HX17.out.k0; have k117 := HX17.out.k1; have lt17 := HX17.out.lt
  have k0A := HXA.out.k0; have k1A := HXA.out.k1; have ltA := HXA.out.lt
  go_wp2_with fail
  refine (same_any _ _ _ _ _ _ _ HW17.out (HW.out.below HB12.out)).mono ?_
  rintro e w13 ⟨rfl, hb⟩
  clear k017 k117 lt17 k0A k1A ltA
  replace HXA := Lib.hid (HXA.out.below hb)
  replace HXB := Lib.hid (HXB.out.below hb)
  replace HXX := Lib.hid (HXX.out.under hb HXX.out.lt)
  replace HX7 := Lib.hid (HX7.out.below hb)
  replace HX10 := Lib.hid (HX10.out.below hb)
  replace HX12 := Lib.hid (HX12.out.below hb)
  replace HX14 := Lib.hid (HX14.out.below hb)
  replace HX15 := Lib.hid (HX15.out.below hb)
  replace HX16 := Lib.hid (HX16.out.below hb)
  replace HX17 := Lib.hid (HX17.out.below hb)
  replace HW7 := Lib.hid (HW7.out.below hb)
  replace HW10 := Lib.hid (HW10.out.below hb)
  replace HW12 := Lib.hid (HW12.out.below hb)
  replace HW14 := Lib.hid (HW14.out.below hb)
  replace HW15 := Lib.hid (HW15.out.below hb)
  replace HW16 := Lib.hid (HW16.out.below hb)
  replace HW17 := Lib.hid (HW17.out.below hb)
  have HB13 := Lib.hid (HB12.out.trans (hb.mono HB12.out.size))
  clear hb
  have k0A := HXA.out.k0; have k1A := HXA.out.k1; have ltA := HXA.out.lt
  go_wp2_with fail
  refine (kc9.out _ ).mono ?_
  rintro e w14 ⟨p18, c18, rfl, hwa, hb⟩
  clear k0A k1A ltA
  replace HXA := Lib.hid (HXA.out.below hb)
  replace HXX := Lib.hid (HXX.out.under hb HXX.out.lt)
  have HB14 := Lib.hid (HB13.out.trans (hb.mono HB13.out.size))
  clear hb
  have HW18 := Lib.hid hwa
  clear hwa
  have xk0 := HXX.out.k0; have xk1 := HXX.out.k1; have xk2 := HXX.out.k2; have xlt := HXX.out.lt
  go_wp2_with fail
  refine (kc10.out _ _ _ (HW18.out.below (newBox _ _ _ _).1)).mono ?_
  rintro e w15 ⟨p19, c19, rfl, hwa, hb⟩
  clear xk0 xk1 xk2 xlt
  obtain ⟨hk, hnew⟩ := newBox_then hb
  replace HXA := Lib.hid (HXA.out.below hk)
  replace HXX := Lib.hid (HXX.out.under hk HXX.out.lt)
  replace HW18 := Lib.hid (HW18.out.below hk)
  have HX18 := Lib.hid hnew
  have HB15 := Lib.hid (HB14.out.trans (hk.mono HB14.out.size))
  clear hb hk hnew
  have HW19 := Lib.hid hwa
  clear hwa
  have k0A := HXA.out.k0; have k1A := HXA.out.k1; have ltA := HXA.out.lt
  have xk0 := HXX.out.k0; have xk1 := HXX.out.k1; have xk2 := HXX.out.k2; have xlt := HXX.out.lt
  go_wp2_with fail
  refine (kc11.out _ _ _ ((HW.out.below HB15.out).below (newBox _ _ _ _).1)).mono ?_
  rintro e w16 ⟨p20, c20, rfl, hwa, hb⟩
  clear k0A k1A ltA xk0 xk1 xk2 xlt
  obtain ⟨hk, hnew⟩ := newBox_then hb
  replace HXA := Lib.hid (HXA.out.below hk)
  replace HXX := Lib.hid (HXX.out.under hk HXX.out.lt)
  replace HX18 := Lib.hid (HX18.out.below hk)
  replace HW19 := Lib.hid (HW19.out.below hk)
  have HX19 := Lib.hid hnew
  have HB16 := Lib.hid (HB15.out.trans (hk.mono HB15.out.size))
  clear hb hk hnew
  have HW20 := Lib.hid hwa
  clear hwa
  have HL20 := Lib.hid HW20.out.block_lt
  have k0A := HXA.out.k0; have k1A := HXA.out.k1; have ltA := HXA.out.lt
  have k019 := HX19.out.k0; have k119 := HX19.out.k1; have lt19 := HX19.out.lt
  go_wp2_with fail
  refine (kc12.out _ _ _ _ _ ((HW.out.below HB16.out).below (newBox _ _ _ _).1) (HW19.out.below (newBox _ _ _ _).1)).mono ?_
  rintro e w17 ⟨p21, c21, rfl, hwa, hb⟩
  clear k0A k1A ltA k019 k119 lt19
  obtain ⟨hk, hnew⟩ := newBox_then hb
  replace HXA := Lib.hid (HXA.out.below hk)
  replace HXX := Lib.hid (HXX.out.under hk HXX.out.lt)
  replace HX18 := Lib.hid (HX18.out.below hk)
  replace HX19 := Lib.hid (HX19.out.below hk)
  replace HW19 := Lib.hid (HW19.out.below hk)
  replace HW20 := Lib.hid (HW20.out.below hk)
  have HX20 := Lib.hid hnew
  have HB17 := Lib.hid (HB16.out.trans (hk.mono HB16.out.size))
  clear hb hk hnew
  have HW21 := Lib.hid hwa
  clear hwa
  have HL21 := Lib.hid HX20.out.lt
  cases on
  · have hTS := G13.out rfl
    subst hTS
    have k020 := HX20.out.k0; have k120 := HX20.out.k1; have lt20 := HX20.out.lt
    have xk0 := HXX.out.k0; have xk1 := HXX.out.k1; have xk2 := HXX.out.k2; have xlt := HXX.out.lt
    go_wp2_with fail
    refine (same_any _ _ _ _ _ _ _ (HW20.out.below (newBox _ _ _ _).1) (HW21.out.below (newBox _ _ _ _).1)).mono ?_
    rintro e w18 ⟨rfl, hb⟩
    clear k020 k120 lt20 xk0 xk1 xk2 xlt
    obtain ⟨hk, hnew⟩ := newBox_then hb
    replace HXA := Lib.hid (HXA.out.below hk)
    replace HXX := Lib.hid (HXX.out.under hk HXX.out.lt)
    replace HX18 := Lib.hid (HX18.out.below hk)
    replace HX19 := Lib.hid (HX19.out.below hk)
    replace HX20 := Lib.hid (HX20.out.below hk)
    replace HW19 := Lib.hid (HW19.out.below hk)
    replace HW20 := Lib.hid (HW20.out.below hk)
    replace HW21 := Lib.hid (HW21.out.below hk)
    have HX21 := Lib.hid hnew
    have HB18 := Lib.hid (HB17.out.trans (hk.mono HB17.out.size))
    clear hb hk hnew
    go_wp2_with fail
    refine (CA.out _ HB18.out).mono ?_
    rintro e w19 ⟨rfl, hb⟩
    have HB19 := Lib.hid (HB18.out.trans (hb.mono HB18.out.size))
    clear hb
    go_wp2_with fail
    go_ret
    exact ⟨rfl, HB19.out⟩
  · replace kc13 := Lib.hid (kc13.out rfl)
    have k0A := HXA.out.k0; have k1A := HXA.out.k1; have ltA := HXA.out.lt
    have k019 := HX19.out.k0; have k119 := HX19.out.k1; have lt19 := HX19.out.lt
    have xk0 := HXX.out.k0; have xk1 := HXX.out.k1; have xk2 := HXX.out.k2; have xlt := HXX.out.lt
    go_wp2_with fail
    refine (kc13.out _ _ _ _ _ ((HW.out.below HB17.out).below (newBox _ _ _ _).1) (HW19.out.below (newBox _ _ _ _).1)).mono ?_
    rintro e w18 ⟨p22, c22, rfl, hwa, hna, hb⟩
    clear k0A k1A ltA k019 k119 lt19 xk0 xk1 xk2 xlt
    obtain ⟨hk, hnew⟩ := newBox_then hb
    have HN22 := Lib.hid (fun g off e => Nat.lt_of_lt_of_le (newBox w17 _ _ _).2.lt (hna g off e))
    replace HXA := Lib.hid (HXA.out.below hk)
    replace HXX := Lib.hid (HXX.out.under hk HXX.out.lt)
    replace HX18 := Lib.hid (HX18.out.below hk)
    replace HX19 := Lib.hid (HX19.out.below hk)
    replace HX20 := Lib.hid (HX20.out.below hk)
    replace HW19 := Lib.hid (HW19.out.below hk)
    replace HW20 := Lib.hid (HW20.out.below hk)
    replace HW21 := Lib.hid (HW21.out.below hk)
    have HX21 := Lib.hid hnew
    have HB18 := Lib.hid (HB17.out.trans (hk.mono HB17.out.size))
    clear hb hk hnew hna
    have HW22 := Lib.hid hwa
    clear hwa
    have k021 := HX21.out.k0; have k121 := HX21.out.k1; have f021 := HX21.out.f0; have f121 := HX21.out.f1; have lt21 := HX21.out.lt
    have k020 := HX20.out.k0; have k120 := HX20.out.k1; have lt20 := HX20.out.lt
    have hl21 : w16.heap.size < w17.heap.size := HL21.out
    have hl22 : w16.heap.size ≠ w17.heap.size := by omega
    go_wp2_with fail
    refine (same_any _ _ _ _ _ _ _ (HW20.out.under (oldBox HX21.out _ _).1 (fun g off h0 e => by have := HL20.out g off h0 e; have := HL21.out; omega)) (HW22.out.set2 (fun g off e h => by have := HN22.out g off e; omega) _ _)).mono ?_
    rintro e w19 ⟨rfl, hb⟩
    clear k020 k120 lt20 k021 k121 f021 f121 lt21
    obtain ⟨hk, hnew⟩ := oldBox_then HX21.out hb
    have HB19 := Lib.hid (HB18.out.trans (hk.mono (by have := HB17.out.size; omega)))
    clear hb hk hnew
    go_wp2_with fail
    refine (CA.out _ HB19.out).mono ?_
    rintro e w20 ⟨rfl, hb⟩
    have HB20 := Lib.hid (HB19.out.trans (hb.mono HB19.out.size))
    clear hb
    go_wp2_with fail
    go_ret
    exact ⟨rfl, HB20.out⟩
set_option maxHeartbeats 4000000 in
set_option maxRecDepth 100000 in
theorem morgan_walk (n : Int) (p : Option Addr) (cap : Nat) (A : List Nat) (n' : Int) (p' : Option Addr) (cap' : Nat) (B : List Nat) (a b : Int) (on : Bool) (w : World) (h : WordsAt w p A) (h' : WordsAt w p' B) (he : BEnv w) :
    Calls Tryd.prog 10 #[.agg #[.int .i64 n, .slice p A.length cap], .agg #[.int .i64 n', .slice p' B.length cap'], .agg #[.int .i64 a, .int .i64 b, .bool on]] w (TruePost w) := by
  have ck := fun W (hW : Below w.heap.size w W) => rcheck_any n p cap A W (h.below hW)
  have cl := fun W (hW : Below w.heap.size w W) => rcheck_any n' p' cap' B W (h'.below hW)
  have CA := Lib.hid (fun W (hW : Below w.heap.size w W) => awake_any W (he.below hW))
  have hok := checkR_ok (n := n) h.lt
  have hok' := checkR_ok (n := n') h'.lt
  have HW := Lib.hid h; have HW' := Lib.hid h'; have HE := Lib.hid he
  generalize checkR n A = c at ck hok
  generalize checkR n' B = d at cl hok'
  have CK := Lib.hid ck; have CL := Lib.hid cl
  have PB := Lib.hid (fun a0 a1 b0 b1 x y z => part_boxes w a0 a1 b0 b1 x y z)
  clear h h' he ck cl
  by_cases hc : c ≠ 0
  · obtain ⟨t1, t2⟩ := neq0 hc
    clear hc hok hok'
    go_enter Tryd.func10, Tryd.ntmps10
    go_wp2_with fail
    refine (CK.out _ (PB.out _ _ _ _ _ _ _).1).mono ?_
    rintro e w1 ⟨rfl, hb⟩
    have HB1 := Lib.hid ((PB.out _ _ _ _ _ _ _).1.trans (hb.mono (PB.out _ _ _ _ _ _ _).1.size))
    clear hb
    go_wp2_with fail
    refine (CA.out _ HB1.out).mono ?_
    rintro e w2 ⟨rfl, hb⟩
    have HB2 := Lib.hid (HB1.out.trans (hb.mono HB1.out.size))
    clear hb
    go_wp2_with fail
    go_ret
    exact ⟨rfl, HB2.out⟩
  · obtain rfl : c = 0 := Classical.not_not.1 hc
    by_cases hd : d ≠ 0
    · obtain ⟨t1, t2⟩ := neq0 hd
      clear hc hd hok hok'
      go_enter Tryd.func10, Tryd.ntmps10
      go_wp2_with fail
      refine (CK.out _ (PB.out _ _ _ _ _ _ _).1).mono ?_
      rintro e w1 ⟨rfl, hb⟩
      have HB1 := Lib.hid ((PB.out _ _ _ _ _ _ _).1.trans (hb.mono (PB.out _ _ _ _ _ _ _).1.size))
      obtain ⟨_, x1, x2, x3⟩ := PB.out (.int .i64 n) (.slice p A.length cap) (.int .i64 n') (.slice p' B.length cap') (.int .i64 a) (.int .i64 b) (.bool on)
      obtain ⟨b0, b1, _, _, blt⟩ := x2.below hb
      clear hb x1 x2 x3
      go_wp2_with fail
      refine (CL.out _ HB1.out).mono ?_
      rintro e w2 ⟨rfl, hb⟩
      have HB2 := Lib.hid (HB1.out.trans (hb.mono HB1.out.size))
      clear hb b0 b1 blt
      go_wp2_with fail
      refine (CA.out _ HB2.out).mono ?_
      rintro e w3 ⟨rfl, hb⟩
      have HB3 := Lib.hid (HB2.out.trans (hb.mono HB2.out.size))
      clear hb
      go_wp2_with fail
      go_ret
      exact ⟨rfl, HB3.out⟩
    · obtain rfl : d = 0 := Classical.not_not.1 hd
      obtain ⟨hn0, hv⟩ := hok rfl
      obtain ⟨_, hv'⟩ := hok' rfl
      by_cases hgood : n = n' ∧ 0 ≤ a ∧ a ≤ b ∧ b ≤ n
      · obtain ⟨rfl, ha0, hab, hbn⟩ := hgood
        obtain ⟨m, rfl⟩ : ∃ m : Nat, n = (m : Int) := ⟨n.toNat, by omega⟩
        obtain ⟨i, rfl⟩ : ∃ i : Nat, a = (i : Int) := ⟨a.toNat, by omega⟩
        obtain ⟨j, rfl⟩ : ∃ j : Nat, b = (j : Int) := ⟨b.toNat, by omega⟩
        rw [Int.toNat_natCast] at hv hv'
        exact morgan_good m p cap A p' cap' B i j on w HW.out HW'.out HE.out hv hv' (by omega) (by omega)
      · have hbad : (n != n') = true ∨ ((n != n') = false ∧ a < 0) ∨ ((n != n') = false ∧ ¬ a < 0 ∧ b < a) ∨ ((n != n') = false ∧ ¬ a < 0 ∧ ¬ b < a ∧ n < b) := by
          rw [bne_iff_ne, bne_eq_false_iff_eq]; omega
        clear hgood hc hd hok hok' hv hv' hn0
        rcases hbad with q1 | ⟨q1, q2⟩ | ⟨q1, q2, q3⟩ | ⟨q1, q2, q3, q4⟩
        all_goals
          go_enter Tryd.func10, Tryd.ntmps10
          go_wp2_with fail
          refine (CK.out _ (PB.out _ _ _ _ _ _ _).1).mono ?_
          rintro e w1 ⟨rfl, hb⟩
          have HB1 := Lib.hid ((PB.out _ _ _ _ _ _ _).1.trans (hb.mono (PB.out _ _ _ _ _ _ _).1.size))
          obtain ⟨_, x1, x2, x3⟩ := PB.out (.int .i64 n) (.slice p A.length cap) (.int .i64 n') (.slice p' B.length cap') (.int .i64 a) (.int .i64 b) (.bool on)
          have HXA := Lib.hid (x1.below hb); have HXB := Lib.hid (x2.below hb); have HXX := Lib.hid (x3.under hb x3.lt)
          clear hb x1 x2 x3
          have b0 := HXB.out.k0; have b1 := HXB.out.k1; have blt := HXB.out.lt
          go_wp2_with fail
          refine (CL.out _ HB1.out).mono ?_
          rintro e w2 ⟨rfl, hb⟩
          have HB2 := Lib.hid (HB1.out.trans (hb.mono HB1.out.size))
          clear b0 b1 blt
          obtain ⟨a0, a1, _, _, alt⟩ := HXA.out.below hb
          obtain ⟨b0, b1, _, _, blt⟩ := HXB.out.below hb
          obtain ⟨x0, x1, x2, xlt⟩ := HXX.out.under hb HXX.out.lt
          clear hb
          go_wp2_with fail
          refine (CA.out _ HB2.out).mono ?_
          rintro e w3 ⟨rfl, hb⟩
          have HB3 := Lib.hid (HB2.out.trans (hb.mono HB2.out.size))
          clear hb
          go_wp2_with fail
          go_ret
          exact ⟨rfl, HB3.out⟩
end Go.Proofs.YtgemakjbjeoabaaDoor
