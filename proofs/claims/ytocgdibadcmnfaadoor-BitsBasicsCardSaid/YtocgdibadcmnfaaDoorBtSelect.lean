/- bits: Next, Select. -/
import Derived.Test.YtocgdibadcmnfaaDoorBtNext
namespace Go.Proofs.YtocgdibadcmnfaaDoor
open Go.RowKit

def nextR (n : Int) (ws : List Nat) (a : Int) (on : Bool) : Int × Int := if runR n ws a n ≠ 0 then (0, runR n ws a n) else findR (fromB (bitN ws) on a.toNat) n.toNat
set_option maxHeartbeats 1000000 in
set_option maxRecDepth 100000 in
theorem Next_any (n : Int) (p : Option Addr) (cap : Nat) (ws : List Nat) (a : Int) (on : Bool) (w : World) (h : WordsAt w p ws) (he : BEnv w) :
    Calls Tryd.prog 28 #[.agg #[.int .i64 n, .slice p ws.length cap], .int .i64 a, .bool on] w (IntErr (nextR n ws a on) w) := by
  have ck := fun W (hW : Below w.heap.size w W) => checkRun_any n p cap ws a n W (h.below hW)
  unfold ErrPost at ck
  have e : nextR n ws a on = if runR n ws a n ≠ 0 then (0, runR n ws a n) else findR (fromB (bitN ws) on a.toNat) n.toNat := rfl
  have hok := runR_ok (n := n) (a := a) (b := n) h.lt
  have HW := Lib.hid h; have HE := Lib.hid he
  generalize runR n ws a n = c at ck e hok
  generalize nextR n ws a on = r at e
  have CK := Lib.hid ck; clear ck h he
  by_cases hc : c ≠ 0
  · rw [if_pos hc] at e
    obtain ⟨t1, t2⟩ := neq0 hc
    have E := Lib.hid e; clear e hc hok
    go_enter Tryd.func28, Tryd.ntmps28
    go_wp2_with (go_at_call 56; refine (CK.out _ ((Below.refl _ _).alloc (Nat.le_refl _) _)).mono ?_; rintro e w1 ⟨rfl, hb⟩; have HB := Lib.hid (boxB hb); clear hb)
    go_ret2
    exact intErr_mk E.out HB.out
  · rw [if_neg hc] at e
    obtain rfl : c = 0 := Classical.not_not.1 hc
    obtain ⟨m, i, j, rfl, rfl, hmj, hij, hjm, hv⟩ := hok rfl
    obtain rfl : m = j := by omega
    rw [Int.toNat_natCast, Int.toNat_natCast] at e
    have cn := fun W (hW : Below w.heap.size w W) => next_any m p cap ws i on W (HW.out.below hW) hv hij (HE.out.below hW)
    unfold NatPost at cn
    have hcs := nextN_cases (fromB (bitN ws) on i) m
    generalize nextN (fromB (bitN ws) on i) m = N at cn hcs
    generalize findR (fromB (bitN ws) on i) m = fr at e hcs
    have CN := Lib.hid cn
    clear cn hc hok hv hmj
    rcases hcs with ⟨hlt, _, _, he⟩ | ⟨heq, _, he⟩
    · rw [he] at e
      have t1 : ((N : Int) == (m : Int)) = false := beq_eq_false_iff_ne.2 (by omega)
      have E := Lib.hid e; clear e he
      go_enter Tryd.func28, Tryd.ntmps28
      go_wp2_with (first
        | (go_at_call 56; refine (CK.out _ ((Below.refl _ _).alloc (Nat.le_refl _) _)).mono ?_; rintro e w1 ⟨rfl, hb⟩; have HB := Lib.hid (boxB hb); obtain ⟨hcell, hfz⟩ := bcell hb; have hz : w.heap.size < w1.heap.size := (by have := hb.size; simp at this; omega); clear hb CK)
        | (go_at_call 61; refine (CN.out _ HB.out).mono ?_; rintro e w2 ⟨rfl, hb2⟩; have HB2 := Lib.hid (HB.out.trans (hb2.mono HB.out.size)); obtain ⟨hcell2, hfz2⟩ := bcell hb2; clear hb2 CN))
      go_ret2
      exact intErr_mk E.out HB2.out
    · subst heq
      rw [he] at e
      have t1 : ((N : Int) == (N : Int)) = true := beq_self_eq_true _
      have E := Lib.hid e; clear e he
      go_enter Tryd.func28, Tryd.ntmps28
      go_wp2_with (first
        | (go_at_call 56; refine (CK.out _ ((Below.refl _ _).alloc (Nat.le_refl _) _)).mono ?_; rintro e w1 ⟨rfl, hb⟩; have HB := Lib.hid (boxB hb); obtain ⟨hcell, hfz⟩ := bcell hb; have hz : w.heap.size < w1.heap.size := (by have := hb.size; simp at this; omega); clear hb CK)
        | (go_at_call 61; refine (CN.out _ HB.out).mono ?_; rintro e w2 ⟨rfl, hb2⟩; have HB2 := Lib.hid (HB.out.trans (hb2.mono HB.out.size)); obtain ⟨hcell2, hfz2⟩ := bcell hb2; clear hb2 CN))
      go_ret2
      exact intErr_mk E.out HB2.out

/-- The k-th one that is sought. -/
def selP (g : Nat → Bool) (k : Nat) (i : Nat) : Bool := g i && (cnt g i == k)
def selectR (n : Int) (ws : List Nat) (k : Int) (on : Bool) : Int × Int :=
  if checkR n ws ≠ 0 then (0, checkR n ws) else if k < 0 then (0, 7) else findR (selP (onB (bitN ws) on) k.toNat) n.toNat
theorem sel_word {ws : List Nat} {q m : Nat} (on : Bool) (hq : q < ws.length) (hx : ws[q] < 2 ^ 64) : cnt (inWin (onB (bitN ws) on) 0 m) (64 * (q + 1)) = cnt (inWin (onB (bitN ws) on) 0 m) (64 * q) + cnt (soughtR ws[q] q 0 m on).testBit 64 := by
  rw [show 64 * (q + 1) = 64 * q + 64 by omega, cnt_add]
  congr 1
  refine cnt_congr _ fun j hj => ?_
  rw [sought_bit hq hx]; simp [hj]
theorem win_zero (g : Nat → Bool) (m i : Nat) (hi : i ≤ m) : cnt (inWin g 0 m) i = cnt g i := by
  refine cnt_congr _ fun j hj => ?_
  unfold inWin; simp; omega
theorem sel_none {g : Nat → Bool} {m k M : Nat} (hm : m ≤ M) (h : cnt (inWin g 0 m) M ≤ k) : findR (selP g k) m = (0, 4) := by
  refine findR_none fun i hi => ?_
  unfold selP
  cases hg : g i with
  | false => rfl
  | true =>
    have h1 := cnt_lt g hi hg
    have h2 := cnt_mono (inWin g 0 m) hm
    rw [win_zero g m m (Nat.le_refl _)] at h2
    have : (cnt g i == k) = false := beq_eq_false_iff_ne.2 (by omega)
    rw [this]; rfl
theorem sel_some {g : Nat → Bool} {m k i : Nat} (hi : i < m) (hg : g i = true) (h : cnt g i = k) : findR (selP g k) m = (((i : Nat) : Int), 0) := by
  refine findR_some hi (by unfold selP; rw [hg, h]; simp) fun j hj => ?_
  unfold selP
  cases hgj : g j with
  | false => rfl
  | true =>
    have := cnt_lt g hj hgj
    have : (cnt g j == k) = false := beq_eq_false_iff_ne.2 (by omega)
    rw [this]; rfl
theorem sel_hit {ws : List Nat} {q m k t y : Nat} {on : Bool} (hq : q < ws.length) (hx : ws[q] < 2 ^ 64) (hd : Dropped (soughtR ws[q] q 0 m on) t y) (ht : t < cnt (soughtR ws[q] q 0 m on).testBit 64) (hk : k = cnt (inWin (onB (bitN ws) on) 0 m) (64 * q) + t) :
    findR (selP (onB (bitN ws) on) k) m = (((64 * q + Lib.ctz 64 y : Nat) : Int), 0) ∧ 64 * q + Lib.ctz 64 y < m := by
  obtain ⟨_, h1, h2, h3⟩ := dropped_low hd ht
  have hb := fun j => sought_bit hq hx 0 m on j
  generalize Lib.ctz 64 y = c at h1 h2 h3
  have hc := hb c
  rw [h2] at hc
  have hc' : inWin (onB (bitN ws) on) 0 m (64 * q + c) = true := by simpa [h1] using hc.symm
  have hc2 : onB (bitN ws) on (64 * q + c) = true ∧ 64 * q + c < m := by
    unfold inWin at hc'; simpa using hc'
  refine ⟨sel_some hc2.2 hc2.1 ?_, hc2.2⟩
  rw [← win_zero _ m _ (by omega), cnt_add, hk]
  congr 1
  rw [← h3]
  refine (cnt_congr _ fun j hj => ?_).symm
  rw [hb]; simp; omega

set_option maxHeartbeats 2000000 in
set_option maxRecDepth 100000 in
theorem select_any (n : Int) (p : Option Addr) (cap : Nat) (ws : List Nat) (k : Int) (on : Bool) (w : World) (h : WordsAt w p ws) (hk : k ≤ 9223372036854775807) (he : BEnv w) :
    Calls Tryd.prog 26 #[.agg #[.int .i64 n, .slice p ws.length cap], .int .i64 k, .bool on] w (IntErr (selectR n ws k on) w) := by
  have ck := fun W (hW : Below w.heap.size w W) => check_any n p cap ws W (h.below hW)
  have e : selectR n ws k on = if checkR n ws ≠ 0 then (0, checkR n ws) else if k < 0 then (0, 7) else findR (selP (onB (bitN ws) on) k.toNat) n.toNat := rfl
  have hok := checkR_ok (n := n) h.lt
  have HW := Lib.hid h; have HE := Lib.hid he
  generalize checkR n ws = c at ck e hok
  generalize selectR n ws k on = r at e
  have CK := Lib.hid ck; clear ck h he
  by_cases hc : c ≠ 0
  · rw [if_pos hc] at e
    obtain ⟨t1, t2⟩ := neq0 hc
    have E := Lib.hid e; clear e hc hok hk
    go_enter Tryd.func26, Tryd.ntmps26
    go_wp2_with (go_at_call 19; refine (CK.out _ ((Below.refl _ _).alloc (Nat.le_refl _) _)).mono ?_; rintro e w1 ⟨rfl, hb⟩; have HB := Lib.hid (boxB hb); clear hb)
    go_ret2
    exact intErr_mk E.out HB.out
  · rw [if_neg hc] at e
    obtain rfl : c = 0 := Classical.not_not.1 hc
    obtain ⟨hn0, hv⟩ := hok rfl
    clear hc hok
    by_cases h1 : k < 0
    · rw [if_pos h1] at e
      have E := Lib.hid e; clear e hk hv
      go_enter Tryd.func26, Tryd.ntmps26
      go_wp2_with (go_at_call 19; refine (CK.out _ ((Below.refl _ _).alloc (Nat.le_refl _) _)).mono ?_; rintro e w1 ⟨rfl, hb⟩; have HB := Lib.hid (boxB hb); clear hb)
      go_ret2
      exact intErr_mk E.out HB.out
    · rw [if_neg h1] at e
      obtain ⟨m, rfl⟩ : ∃ m : Nat, n = (m : Int) := ⟨n.toNat, by omega⟩
      obtain ⟨K, rfl⟩ : ∃ K : Nat, k = (K : Int) := ⟨k.toNat, by omega⟩
      rw [Int.toNat_natCast] at hv
      rw [Int.toNat_natCast, Int.toNat_natCast] at e
      obtain ⟨hr1, hr2⟩ := valid_room hv
      have hm := hv.le
      have hnone := fun hh => sel_none (g := onB (bitN ws) on) (k := K) hr1 hh
      have E := Lib.hid e; have HNO := Lib.hid hnone; have HK := Lib.hid hk
      clear e hv hnone hk
      go_enter Tryd.func26, Tryd.ntmps26
      go_wp2_with (go_at_call 19; refine (CK.out _ ((Below.refl _ _).alloc (Nat.le_refl _) _)).mono ?_; rintro e w1 ⟨rfl, hb⟩; have HB := Lib.hid (boxB hb); have HX := Lib.hid ((BoxAt.new w m (.slice p ws.length cap) 24).below hb); obtain ⟨hcell, hfz⟩ := bcell hb; clear hb CK)
      clear hcell hfz
      go_loopg [1, 22] ws.length (fun n kk i wr => ∃ q K' : Nat, q + n = ws.length ∧ i = .int .i64 q ∧ kk = .int .i64 K' ∧ K = cnt (inWin (onB (bitN ws) on) 0 m) (64 * q) + K' ∧ Below w.heap.size w wr ∧ BoxAt wr w.heap.size m (.slice p ws.length cap))
      case atStart => exact ⟨0, K, by omega, by go_num, rfl, by simp [cnt], HB.out, HX.out⟩
      case round =>
        clear HB HX
        obtain ⟨q, K', hqn, rfl, rfl, hKK, hbw, hbox⟩ := hrel
        have b0 := hbox.c0
        have b1 := hbox.c1
        have HB := Lib.hid hbw; have HX := Lib.hid hbox
        clear hbw hbox
        by_cases hlt : q < ws.length
        · obtain ⟨n', rfl⟩ : ∃ n', gk = n' + 1 := ⟨gk - 1, by omega⟩
          have hx := word_in HW.out.lt q hlt
          have cs := fun W (hW : Below w.heap.size w W) => sought_any m p cap ws q 0 m on W (HW.out.below hW) hlt (by omega) (by omega) (by omega)
          have hsw := sel_word (m := m) on hlt hx
          have hhit := fun t y hd ht => sel_hit (k := K) (t := t) (y := y) (on := on) (m := m) hlt hx hd ht
          have hyl := sought_lt ws[q] q 0 m on
          have hd0 := dropped_zero hyl
          generalize soughtR ws[q] q 0 m on = y at cs hsw hhit hyl hd0
          unfold WordPost at cs
          have cp := fun W => pop_any y hyl W
          have hle := cnt_le y.testBit 64
          generalize hC : cnt (inWin (onB (bitN ws) on) 0 m) (64 * q) = C at hKK hsw hhit
          obtain ⟨P, hP⟩ : ∃ P, cnt y.testBit 64 = P := ⟨_, rfl⟩
          rw [hP] at cp hle hsw
          have hhit2 := fun t z hd (ht : t < P) => hhit t z hd (by rw [hP]; exact ht)
          have hsuc := fun t z hd (ht : t < P) => dropped_succ (x := y) (t := t) (y := z) hd (by rw [hP]; exact ht)
          have ik : (q : Int) < ws.length := by omega
          have q4 : (q : Int) ≤ 64 := by omega
          have p1 : (P : Int) ≤ 64 := by omega
          have k9 : (K' : Int) ≤ 9223372036854775807 := by have := HK.out; omega
          have HSW := Lib.hid hsw; have CS := Lib.hid cs; have CP := Lib.hid cp; have HHIT := Lib.hid hhit2; have HSUC := Lib.hid hsuc; have HD := Lib.hid hd0; have HKK := Lib.hid hKK; have HP := Lib.hid hP
          clear hsw cs cp hhit hhit2 hsuc hd0 hP hC hKK hle
          by_cases hge : P ≤ K'
          · have g1 : (P : Int) ≤ K' := by omega
            have K9 := Lib.hid k9
            have hsub : wrap64 ((K' : Int) - (P : Int)) = ((K' - P : Nat) : Int) := by rw [IntWalk.wrap64_in _ (by omega)]; omega
            have HSUB := Lib.hid hsub
            clear k9 hsub
            go_wp2_with (first
              | (go_at_call 59; refine (CS.out _ HB.out).mono ?_; rintro e w2 ⟨rfl, hb1⟩; have HB1 := Lib.hid (HB.out.trans (hb1.mono HB.out.size)); have HX1 := Lib.hid (HX.out.below hb1); clear hb1 b0 b1 CS)
              | (go_at_call 58; refine (CP.out _).mono ?_; rintro e w' ⟨rfl, rfl⟩; clear CP))
            go_roundg n'
            case measure => omega
            case rel => exact ⟨q + 1, K' - P, by omega, by go_num, by first | (rw [HSUB.out]) | (go_goals), by rw [HSW.out]; have := HKK.out; omega, HB1.out, HX1.out⟩
          · have g1 : ¬ (P : Int) ≤ K' := by omega
            have K9 := Lib.hid k9
            clear k9
            go_wp2_with (first
              | (go_at_call 59; refine (CS.out _ HB.out).mono ?_; rintro e w2 ⟨rfl, hb1⟩; have HB1 := Lib.hid (HB.out.trans (hb1.mono HB.out.size)); clear hb1 b0 b1 CS)
              | (go_at_call 58; refine (CP.out _).mono ?_; rintro e w' ⟨rfl, rfl⟩; clear CP))
            go_loop [10, 40] (fun x i => ∃ t z : Nat, t ≤ K' ∧ i = .int .i64 t ∧ x = .int .u64 (z : Int) ∧ Dropped y t z) (fun _ i => K' - (intOf i).toNat)
            case atStart => exact ⟨0, y, Nat.zero_le _, by go_num, rfl, HD.out⟩
            case round =>
              obtain ⟨t, z, htk, rfl, rfl, hd⟩ := hrel
              have htP : t < P := by omega
              obtain ⟨hz0, hz1, _, _⟩ := dropped_low hd (by rw [HP.out]; exact htP)
              have hzl := hd.1
              have HD2 := Lib.hid hd
              clear hd
              by_cases htl : t < K'
              · have il : (t : Int) < K' := by omega
                have ew : IntKind.u64.wrap ((z : Int) - 1) = ((z - 1 : Nat) : Int) := by
                  rw [show (z : Int) - 1 = ((z - 1 : Nat) : Int) by omega]; exact u64_nat _ (by omega)
                have ea := u64_and_nat z (z - 1) (by omega) (by omega)
                have EW := Lib.hid ew; have EA := Lib.hid ea
                have k8 : (K' : Int) ≤ 64 := by omega
                clear ew ea hz0 hzl hz1
                go_wp2_with fail
                go_round
                case rel => exact ⟨t + 1, z &&& (z - 1), by omega, by go_num, by rw [EW.out, EA.out], HSUC.out t z HD2.out htP⟩
                case measure => simp [intOf]; omega
              · obtain rfl : t = K' := by omega
                obtain ⟨hf1, hf2⟩ := HHIT.out t z HD2.out htP HKK.out
                have cz := fun W (hW : BEnv W) => ctz_any z hzl hz0 W hW
                generalize Lib.ctz 64 z = cc at hf1 hf2 cz hz1
                have HF := Lib.hid hf1; have CZ := Lib.hid cz
                have c6 : (cc : Int) < 64 := by omega
                clear hf1 cz hz0 hzl
                go_wp2_with (go_at_call 60; refine (CZ.out _ (HE.out.below HB1.out)).mono ?_; rintro e w' ⟨rfl, rfl⟩)
                go_ret2
                exact intErr_mk (by rw [E.out, HF.out]; exact congrArg (fun u => ((u : Int), (0 : Int))) (by omega)) HB1.out
        · have hno := HNO.out (by have h2 : ws.length = q := (by omega); rw [h2, hKK]; omega)
          have HN := Lib.hid hno
          have ik : ¬ (q : Int) < ws.length := by omega
          clear hno hKK
          go_wp2_with fail
          go_ret2
          exact intErr_mk (by rw [E.out, HN.out]) HB.out
end Go.Proofs.YtocgdibadcmnfaaDoor
