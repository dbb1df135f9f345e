/- The reference's Set, New. -/
import Derived.Test.YtocgdibadcmnfaaDoorBrBasics
namespace Go.Proofs.YtocgdibadcmnfaaDoor
open Go.RowKit Go.Shelf
set_option maxHeartbeats 2000000 in
set_option maxRecDepth 100000 in
theorem rSet_any (n : Int) (p : Option Addr) (cap : Nat) (ws : List Nat) (a b : Int) (on : Bool) (w : World) (h : WordsAt w p ws) :
    Calls Tryd.prog 23 #[.agg #[.int .i64 n, .slice p ws.length cap], .int .i64 a, .int .i64 b, .bool on] w (BtNew (setR n ws a b on) w) := by
  have ck := fun W (hW : Below w.heap.size w W) => rpart_any n p cap ws a b W (h.below hW)
  unfold ErrPost at ck
  have e : setR n ws a b on = if runR n ws a b ≠ 0 then ((0, []), runR n ws a b) else ((n.toNat, packR n.toNat (runOn a.toNat b.toNat on (bitN ws))), 0) := rfl
  have hok := runR_ok (n := n) (a := a) (b := b) h.lt
  have HW := Lib.hid h
  generalize runR n ws a b = c at ck e hok
  generalize setR n ws a b on = r at e
  have CK := Lib.hid ck; clear ck h
  have hz2 : ∀ (o1 o2 : Obj), ((w.alloc o1).alloc o2).heap.size = w.heap.size + 1 + 1 := fun _ _ => by simp
  have hb2 : ∀ (o1 o2 : Obj), Below w.heap.size w ((w.alloc o1).alloc o2) := fun o1 o2 => ((Below.refl _ _).alloc (Nat.le_refl _) _).alloc (by simp) _
  have HZ2 := Lib.hid hz2; have HBB := Lib.hid hb2
  clear hz2 hb2
  by_cases hc : c ≠ 0
  · rw [if_pos hc] at e
    obtain ⟨t1, t2⟩ := neq0 hc
    have E := Lib.hid e; clear e hc hok
    go_enter Tryd.func23, Tryd.ntmps23
    go_wp2_with (go_at_call 57; refine (CK.out _ (HBB.out _ _)).mono ?_; rintro e w1 ⟨rfl, hb⟩; have HB := Lib.hid ((HBB.out _ _).trans (hb.mono (by rw [HZ2.out]; omega))); obtain ⟨k0, k1, f0, f1, lt⟩ := (Res2.new1 w _ (.int .i64 0) (.slice none 0 0) 24).below hb; clear hb)
    refine bodyPost_ret (v := .tuple #[.agg #[.int .i64 0, .slice none 0 0], .int .i64 c]) (by simp [results, Tryd.results23, go_sem, k0, k1, f0, f1]) rfl ?_
    exact btNew_err E.out (set2B HB.out (by omega) _ _)
  · rw [if_neg hc] at e
    obtain rfl : c = 0 := Classical.not_not.1 hc
    obtain ⟨m, i, j, rfl, rfl, rfl, hij, hjm, hv⟩ := hok rfl
    rw [Int.toNat_natCast, Int.toNat_natCast, Int.toNat_natCast] at e
    have hm := hv.le
    have cl := fun W (hW : Below w.heap.size w W) => rlist_any m p cap ws W (HW.out.below hW) hv
    unfold ListPost at cl
    have CL := Lib.hid cl; have E := Lib.hid e
    have j4 : (j : Int) ≤ 4096 := by omega
    clear e cl hok hv hc
    go_enter Tryd.func23, Tryd.ntmps23
    go_wp2_with fail
    refine (CK.out _ (HBB.out _ _)).mono ?_
    rintro e w1 ⟨rfl, hb⟩
    have HB1 := Lib.hid ((HBB.out _ _).trans (hb.mono (by rw [HZ2.out]; omega)))
    have HX1 := Lib.hid ((BoxAt.new1 w m (.slice p ws.length cap) 24 (.cells #[.int .i64 0, .slice none 0 0] 24)).below hb)
    have HR1 := Lib.hid ((Res2.new1 w (.cells #[.int .i64 m, .slice p ws.length cap] 24) (.int .i64 0) (.slice none 0 0) 24).below hb)
    clear hb
    have c0 := HX1.out.c0; have c1 := HX1.out.c1
    go_wp2_with fail
    refine (CL.out _ HB1.out).mono ?_
    rintro e w2 ⟨v, rfl, hb, ho⟩
    obtain ⟨pb, cb, rfl⟩ := own_slice ho
    have HI := Lib.hid (show LInv w w2 (w.heap.size + 1) w1.heap.size m (.slice pb m cb) (bitN ws) from ⟨HB1.out.trans (hb.mono HB1.out.size), HR1.out.below hb, ho⟩)
    have hlt1 := HR1.out.lt
    clear hb ho c0 c1
    go_wp2_with fail
    go_loopg [12] (j - i) (fun n1 t wr => ∃ k : Nat, k + n1 = j ∧ i ≤ k ∧ t = .int .i64 k ∧ LInv w wr (w.heap.size + 1) w1.heap.size m (.slice pb m cb) (runOn i k on (bitN ws)))
    case atStart => exact ⟨i, by omega, Nat.le_refl _, rfl, ⟨HI.out.below, HI.out.res, by rw [runOn_none]; exact HI.out.row⟩⟩
    case round =>
      clear HI
      obtain ⟨k, hkn, hik, rfl, hinv⟩ := hrel
      have HI := Lib.hid hinv
      clear hinv
      have k0 : (0 : Int) ≤ k := by omega
      have k4 : (k : Int) ≤ 4096 := by omega
      by_cases hlt : k < j
      · obtain ⟨n', rfl⟩ : ∃ n', gk = n' + 1 := ⟨gk - 1, by omega⟩
        have i1 : (k : Int) < j := by omega
        have i2 : (k : Int) < m := by omega
        obtain ⟨g, cg, hve, hg, d0, f5⟩ := HI.out.at_ (show k < m by omega)
        obtain ⟨rfl, rfl⟩ : pb = some ⟨g, 0, none⟩ ∧ cb = cg := by cases hve; exact ⟨rfl, rfl⟩
        have HST := Lib.hid (HI.out.store (k := k) (by omega) (by omega) hg (runOn_step (bitN ws) m i k on hik))
        generalize runOn i k on (bitN ws) k = bt at d0
        go_wp2_with fail
        go_roundg n'
        case measure => omega
        case rel => exact ⟨k + 1, by omega, by omega, by go_num, HST.out⟩
      · obtain rfl : k = j := by omega
        have i1 : ¬ (k : Int) < k := by omega
        obtain ⟨p5, c5, hve, hbo, _⟩ := own_boolsN HI.out.row
        obtain ⟨rfl, rfl⟩ : pb = p5 ∧ cb = c5 := by cases hve; exact ⟨rfl, rfl⟩
        have co := rOf_any (runOn i k on (bitN ws)) m pb cb wr hm hbo
        have CO := Lib.hid co
        have hI := HI.out.below.size
        clear co hbo
        go_wp2_with fail
        refine CO.out.mono ?_
        rintro e w5 ⟨p', cap', rfl, hw', hn', hb⟩
        have HWS := Lib.hid hw'; have HNW := Lib.hid hn'
        have HB5 := Lib.hid (HI.out.below.trans (hb.mono HI.out.below.size))
        obtain ⟨k0, k1, f0, f1, lt⟩ := HI.out.res.below hb
        have hBl := HI.out.res.lt
        clear hb hw' hn'
        go_wp2_with fail
        refine bodyPost_ret (v := .tuple #[.agg #[.int .i64 m, .slice p' (lenW m) cap'], .int .i64 0]) (by simp [results, Tryd.results23, go_sem, k0, k1, f0, f1]) rfl ?_
        rw [← pack_len m (runOn i k on (bitN ws))]
        exact btNew_mk E.out (HWS.out.set2 (fun g off e => by have := HNW.out g off e; omega) _ _) (fun g off e => by have := HNW.out g off e; omega) (set2B HB5.out (by omega) _ _)
theorem made_bools (w : World) (base n : Nat) (hb : base ≤ w.heap.size) (hn : n ≤ maxLen) : (w.alloc (.cells (madeCells #[.bool false] n) 4)).ownsRow base 4 1 (.slice (some ⟨w.heap.size, 0, none⟩) n n) n (boolC (fun _ => false) n) := by
  refine ⟨by simp [boolC], .inr ⟨w.heap.size, n, _, rfl, hb, heap_alloc_new _ _, Nat.le_refl _, hn, by simp [madeCells], ?_⟩⟩
  rw [List.take_of_length_le (by simp [madeCells])]
  apply List.ext_getElem
  · simp [madeCells, boolC]
  · intro i h1 h2
    have h3 : i % 1 = 0 := Nat.mod_one i
    simp [madeCells, boolC, h3]
set_option maxHeartbeats 2000000 in
set_option maxRecDepth 100000 in
theorem rNew_any (n : Int) (on : Bool) (w : World) : Calls Tryd.prog 16 #[.int .i64 n, .bool on] w (BtNew (newR n on) w) := by
  by_cases h0 : n < 0 ∨ 4096 < n
  · have e : newR n on = ((0, []), 7) := by unfold newR; rw [if_pos h0]
    have E := Lib.hid e
    have h0' : n < 0 ∨ (¬ n < 0 ∧ 4096 < n) := by omega
    have R := Lib.hid (Res2.new w (.int .i64 0) (.slice none 0 0) 24)
    clear e h0
    rcases h0' with q1 | ⟨q1, q2⟩
    all_goals
      obtain ⟨k0, k1, f0, f1, lt⟩ := R.out
      go_enter Tryd.func16, Tryd.ntmps16
      go_wp2_with fail
      refine bodyPost_ret (v := .tuple #[.agg #[.int .i64 0, .slice none 0 0], .int .i64 7]) (by simp [results, Tryd.results16, go_sem, k0, k1, f0, f1]) rfl ?_
      exact btNew_err E.out ((Below.refl _ _).alloc (Nat.le_refl _) _)
  · obtain ⟨m, rfl⟩ : ∃ m : Nat, n = (m : Int) := ⟨n.toNat, by omega⟩
    have e : newR m on = ((m, packR m fun _ => on), 0) := by unfold newR; rw [if_neg h0]; rfl
    have hm : m ≤ 4096 := by omega
    have E := Lib.hid e
    have q1 : ¬ (m : Int) < 0 := by omega
    have q2 : ¬ 4096 < (m : Int) := by omega
    have q3 : (m : Int) ≤ 4096 := by omega
    have hmk := fun W => run_make_row' (P := Tryd.prog) 61 4 (.bool false) 1 Tryd.underlying61 info_bool rfl .i64 .i64 m (by omega) (by omega) W
    have HR := Lib.hid (Res2.new w (.int .i64 0) (.slice none 0 0) 24)
    have HI := Lib.hid (show LInv w ((w.alloc (.cells #[.int .i64 0, .slice none 0 0] 24)).alloc (.cells (madeCells #[.bool false] m) 4)) w.heap.size (w.heap.size + 1) m (.slice (some ⟨w.heap.size + 1, 0, none⟩) m m) (fun _ => false) from by
      have hz : (w.alloc (.cells #[.int .i64 0, .slice none 0 0] 24)).heap.size = w.heap.size + 1 := by simp
      refine ⟨(alloc2 w _ _).1, HR.out.below ((Below.refl _ _).alloc (Nat.le_refl _) _), ?_⟩
      have := made_bools (w.alloc (.cells #[.int .i64 0, .slice none 0 0] 24)) (w.heap.size + 1) m (by omega) (by unfold maxLen; omega)
      rwa [hz] at this)
    clear e h0
    go_enter Tryd.func16, Tryd.ntmps16
    go_wp2_with fail
    clear hmk
    go_loopg [7] m (fun n1 t wr => ∃ k : Nat, k + n1 = m ∧ t = .int .i64 k ∧ LInv w wr w.heap.size (w.heap.size + 1) m (.slice (some ⟨w.heap.size + 1, 0, none⟩) m m) (partF (fun _ => false) (fun _ => on) k))
    case atStart => exact ⟨0, by omega, by go_num, by rw [partF_zero]; exact HI.out⟩
    case round =>
      clear HI
      obtain ⟨k, hkn, rfl, hinv⟩ := hrel
      have HI := Lib.hid hinv
      clear hinv
      have k0 : (0 : Int) ≤ k := by omega
      have k4 : (k : Int) ≤ 4096 := by omega
      by_cases hlt : k < m
      · obtain ⟨n', rfl⟩ : ∃ n', gk = n' + 1 := ⟨gk - 1, by omega⟩
        have i1 : (k : Int) < m := by omega
        obtain ⟨g, cg, hve, hg, d0, f5⟩ := HI.out.at_ hlt
        obtain ⟨rfl, rfl⟩ : w.heap.size + 1 = g ∧ m = cg := by cases hve; exact ⟨rfl, rfl⟩
        have HST := Lib.hid (HI.out.store (k := k) (by omega) (by omega) hg (partF_set (fun _ => false) (fun _ => on) m k on rfl))
        generalize partF (fun _ => false) (fun _ => on) k k = bt at d0
        clear hve
        go_wp2_with fail
        go_roundg n'
        case measure => omega
        case rel => exact ⟨k + 1, by omega, by go_num, HST.out⟩
      · obtain rfl : k = m := by omega
        have i1 : ¬ (k : Int) < k := by omega
        have hrow := HI.out.row
        rw [partF_all] at hrow
        obtain ⟨p5, c5, hve, hbo, _⟩ := own_boolsN hrow
        obtain ⟨rfl, rfl⟩ : some ⟨w.heap.size + 1, 0, none⟩ = p5 ∧ k = c5 := by cases hve; exact ⟨rfl, rfl⟩
        have co := rOf_any (fun _ => on) k _ k wr hm hbo
        have CO := Lib.hid co
        have hI := HI.out.below.size
        clear co hbo hrow hve
        go_wp2_with fail
        refine CO.out.mono ?_
        rintro e w5 ⟨p', cap', rfl, hw', hn', hb⟩
        have HWS := Lib.hid hw'; have HNW := Lib.hid hn'
        have HB5 := Lib.hid (HI.out.below.trans (hb.mono HI.out.below.size))
        obtain ⟨k0, k1, f0, f1, lt⟩ := HI.out.res.below hb
        have hBl := HI.out.res.lt
        clear hb hw' hn'
        go_wp2_with fail
        refine bodyPost_ret (v := .tuple #[.agg #[.int .i64 k, .slice p' (lenW k) cap'], .int .i64 0]) (by simp [results, Tryd.results16, go_sem, k0, k1, f0, f1]) rfl ?_
        rw [← pack_len k (fun _ => on)]
        exact btNew_mk E.out (HWS.out.set2 (fun g off e => by have := HNW.out g off e; omega) _ _) (fun g off e => by have := HNW.out g off e; omega) (set2B HB5.out (by omega) _ _)
end Go.Proofs.YtocgdibadcmnfaaDoor
