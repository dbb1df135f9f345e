/- The reference's Flip. -/
import Derived.Test.YtocgdibadcmnfaaDoorBrOf
namespace Go.Proofs.YtocgdibadcmnfaaDoor
open Go.RowKit Go.Shelf
/-- A list of truth values in a row of the call's own, and the result's box. -/
structure LInv (w W : World) (B base m : Nat) (v : Value) (g : Nat → Bool) : Prop where
  below : Below w.heap.size w W
  res : Res2 W B (.int .i64 0) (.slice none 0 0)
  row : W.ownsRow base 4 1 v m (boolC g m)
theorem LInv.store {w W : World} {B base m k g cap : Nat} {f f' : Nat → Bool} {b : Bool} (h : LInv w W B base m (.slice (some ⟨g, 0, none⟩) m cap) f) (hw : w.heap.size ≤ base) (hB : B < base) (hg : base ≤ g) (he : (boolC f m).set k (.bool b) = boolC f' m) : LInv w (W.setCell ⟨g, k, none⟩ (.bool b)) B base m (.slice (some ⟨g, 0, none⟩) m cap) f' :=
  ⟨Below.setCell (p := ⟨g, k, none⟩) h.below (by show w.heap.size ≤ g; omega) _, h.res.set_other (by omega) _, by rw [← he]; exact (ownsRow_set (j := k) (.bool b) h.row).1⟩
theorem LInv.call {w W W' : World} {B base m : Nat} {v : Value} {f : Nat → Bool} (h : LInv w W B base m v f) (hb : Below W.heap.size W W') : LInv w W' B base m v f :=
  ⟨h.below.trans (hb.mono h.below.size), h.res.below hb, ownB_below h.row hb⟩
/-- What is read, and stored to, at one place of the row. -/
theorem LInv.at_ {w W : World} {B base m k : Nat} {v : Value} {f : Nat → Bool} (h : LInv w W B base m v f) (hk : k < m) : ∃ g cap, v = .slice (some ⟨g, 0, none⟩) m cap ∧ base ≤ g ∧ W.cell? ⟨g, k, none⟩ = some (.bool (f k)) ∧ W.frozen? ⟨g, k, none⟩ = false := by
  obtain ⟨g, cap, rfl, hg, hl, hc⟩ := own_row h.row (by omega)
  exact ⟨g, cap, rfl, hg, hc k (.bool (f k)) (by simp [boolC, hk]), (ownsRow_set (j := k) (.bool true) h.row).2.1⟩
set_option maxHeartbeats 2000000 in
set_option maxRecDepth 100000 in
theorem rFlip_any (n : Int) (p : Option Addr) (cap : Nat) (ws : List Nat) (w : World) (h : WordsAt w p ws) :
    Calls Tryd.prog 48 #[.agg #[.int .i64 n, .slice p ws.length cap]] w (BtNew (flipR n ws) w) := by
  have ck := fun W (hW : Below w.heap.size w W) => rcheck_any n p cap ws W (h.below hW)
  have e : flipR n ws = if checkR n ws ≠ 0 then ((0, []), checkR n ws) else ((n.toNat, packR n.toNat fun i => !bitN ws i), 0) := rfl
  have hok := checkR_ok (n := n) h.lt
  have HW := Lib.hid h
  generalize checkR n ws = c at ck e hok
  generalize flipR n ws = r at e
  have CK := Lib.hid ck; clear ck h
  have hz2 : ∀ (o1 o2 : Obj), ((w.alloc o1).alloc o2).heap.size = w.heap.size + 1 + 1 := fun _ _ => by simp
  have hb2 : ∀ (o1 o2 : Obj), Below w.heap.size w ((w.alloc o1).alloc o2) := fun o1 o2 => ((Below.refl _ _).alloc (Nat.le_refl _) _).alloc (by simp) _
  have HZ2 := Lib.hid hz2; have HBB := Lib.hid hb2
  clear hz2 hb2
  by_cases hc : c ≠ 0
  · rw [if_pos hc] at e
    obtain ⟨t1, t2⟩ := neq0 hc
    have E := Lib.hid e; clear e hc hok
    go_enter Tryd.func48, Tryd.ntmps48
    go_wp2_with (go_at_call 20; refine (CK.out _ (HBB.out _ _)).mono ?_; rintro e w1 ⟨rfl, hb⟩; have HB := Lib.hid ((HBB.out _ _).trans (hb.mono (by rw [HZ2.out]; omega))); obtain ⟨k0, k1, f0, f1, lt⟩ := (Res2.new1 w _ (.int .i64 0) (.slice none 0 0) 24).below hb; clear hb)
    refine bodyPost_ret (v := .tuple #[.agg #[.int .i64 0, .slice none 0 0], .int .i64 c]) (by simp [results, Tryd.results48, go_sem, k0, k1, f0, f1]) rfl ?_
    exact btNew_err E.out (set2B HB.out (by omega) _ _)
  · rw [if_neg hc] at e
    obtain rfl : c = 0 := Classical.not_not.1 hc
    obtain ⟨hn0, hv⟩ := hok rfl
    obtain ⟨m, rfl⟩ : ∃ m : Nat, n = (m : Int) := ⟨n.toNat, by omega⟩
    rw [Int.toNat_natCast] at e hv
    have hm := hv.le
    have cl := fun W (hW : Below w.heap.size w W) => rlist_any m p cap ws W (HW.out.below hW) hv
    unfold ListPost at cl
    have CL := Lib.hid cl; have E := Lib.hid e
    have m4 : (m : Int) ≤ 4096 := by omega
    clear e cl hok hv hc hn0
    go_enter Tryd.func48, Tryd.ntmps48
    go_wp2_with fail
    refine (CK.out _ (HBB.out _ _)).mono ?_
    rintro e w1 ⟨rfl, hb⟩
    have HB1 := Lib.hid ((HBB.out _ _).trans (hb.mono (by rw [HZ2.out]; omega)))
    have HX1 := Lib.hid ((BoxAt.new1 w m (.slice p ws.length cap) 24 (.cells #[.int .i64 0, .slice none 0 0] 24)).below hb)
    have HR1 := Lib.hid ((Res2.new1 w (.cells #[.int .i64 m, .slice p ws.length cap] 24) (.int .i64 0) (.slice none 0 0) 24).below hb)
    clear hb
    have c0 := HX1.out.c0; have c1 := HX1.out.c1
    go_wp2_with fail
    refine (CL.out _ HB1.out).mono ?_
    rintro e w2 ⟨v, rfl, hb, ho⟩
    obtain ⟨pb, cb, rfl⟩ := own_slice ho
    have HI := Lib.hid (show LInv w w2 (w.heap.size + 1) w1.heap.size m (.slice pb m cb) (bitN ws) from ⟨HB1.out.trans (hb.mono HB1.out.size), HR1.out.below hb, ho⟩)
    have hlt1 := HR1.out.lt
    clear hb ho c0 c1
    go_wp2_with fail
    go_loopg [6] m (fun n1 i wr => ∃ k : Nat, k + n1 = m ∧ i = .int .i64 k ∧ LInv w wr (w.heap.size + 1) w1.heap.size m (.slice pb m cb) (partF (bitN ws) (fun i => !bitN ws i) k))
    case atStart => exact ⟨0, by omega, by go_num, by rw [partF_zero]; exact HI.out⟩
    case round =>
      clear HI
      obtain ⟨k, hkn, rfl, hinv⟩ := hrel
      have HI := Lib.hid hinv
      clear hinv
      have k0 : (0 : Int) ≤ k := by omega
      have k4 : (k : Int) ≤ 4096 := by omega
      by_cases hlt : k < m
      · obtain ⟨n', rfl⟩ : ∃ n', gk = n' + 1 := ⟨gk - 1, by omega⟩
        have i1 : (k : Int) < m := by omega
        obtain ⟨g, cg, hve, hg, d0, f5⟩ := HI.out.at_ hlt
        obtain ⟨rfl, rfl⟩ : pb = some ⟨g, 0, none⟩ ∧ cb = cg := by cases hve; exact ⟨rfl, rfl⟩
        have hpk : partF (bitN ws) (fun i => !bitN ws i) k k = bitN ws k := by simp [partF]
        rw [hpk] at d0
        have HS := Lib.hid (partF_set (bitN ws) (fun i => !bitN ws i) m k (!bitN ws k) rfl)
        have HST := Lib.hid (HI.out.store (k := k) (by omega) (by omega) hg HS.out)
        clear hpk
        go_wp2_with fail
        go_roundg n'
        case measure => omega
        case rel => exact ⟨k + 1, by omega, by go_num, HST.out⟩
      · obtain rfl : k = m := by omega
        have hrow := HI.out.row
        rw [partF_all] at hrow
        obtain ⟨p5, c5, hve, hbo, _⟩ := own_boolsN hrow
        obtain ⟨rfl, rfl⟩ : pb = p5 ∧ cb = c5 := by cases hve; exact ⟨rfl, rfl⟩
        have co := rOf_any (fun i => !bitN ws i) k pb cb wr hm hbo
        have CO := Lib.hid co
        have hI := HI.out.below.size
        clear co hbo hrow
        go_wp2_with fail
        refine CO.out.mono ?_
        rintro e w5 ⟨p', cap', rfl, hw', hn', hb⟩
        have HWS := Lib.hid hw'; have HNW := Lib.hid hn'
        have HB5 := Lib.hid (HI.out.below.trans (hb.mono HI.out.below.size))
        obtain ⟨k0, k1, f0, f1, lt⟩ := HI.out.res.below hb
        have hBl := HI.out.res.lt
        clear hb hw' hn'
        go_wp2_with fail
        refine bodyPost_ret (v := .tuple #[.agg #[.int .i64 k, .slice p' (lenW k) cap'], .int .i64 0]) (by simp [results, Tryd.results48, go_sem, k0, k1, f0, f1]) rfl ?_
        rw [← pack_len k (fun i => !bitN ws i)]
        exact btNew_mk E.out (HWS.out.set2 (fun g off e => by have := HNW.out g off e; omega) _ _) (fun g off e => by have := HNW.out g off e; omega) (set2B HB5.out (by omega) _ _)
end Go.Proofs.YtocgdibadcmnfaaDoor
