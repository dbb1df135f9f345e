/- bits: Block. -/
import Derived.Test.YtocgdibadcmnfaaDoorBtBest
import Derived.WalkMore
namespace Go.Proofs.YtocgdibadcmnfaaDoor
open Go.RowKit Go.Shelf

def clearRun (f : Nat → Bool) (i s : Nat) : Bool := (List.range s).all fun d => !f (i + d)
theorem clearRun_iff (f : Nat → Bool) (i s : Nat) : clearRun f i s = true ↔ ∀ j, i ≤ j → j < i + s → f j = false := by
  unfold clearRun
  rw [List.all_eq_true]
  constructor
  · intro h j h1 h2
    have := h (j - i) (List.mem_range.2 (by omega))
    rw [show i + (j - i) = j by omega] at this
    simpa using this
  · intro h d hd
    have := h (i + d) (by omega) (by have := List.mem_range.1 hd; omega)
    simp [this]
theorem clearRun_no {f : Nat → Bool} {i s j : Nat} (h1 : i ≤ j) (h2 : j < i + s) (h : f j = true) : clearRun f i s = false := by
  cases hc : clearRun f i s with
  | false => rfl
  | true => rw [(clearRun_iff f i s).1 hc j h1 h2] at h; cases h
def blockP (f : Nat → Bool) (s n i : Nat) : Bool := (i % s == 0) && (decide (i + s ≤ n) && clearRun f i s)
def blockE (n : Int) (ws : List Nat) (o : Int) : Int := if checkR n ws ≠ 0 then checkR n ws else if o < 0 ∨ 12 < o then 7 else 0
def blockR (n : Int) (ws : List Nat) (o : Int) : Int × Int := if blockE n ws o ≠ 0 then (0, blockE n ws o) else findR (blockP (bitN ws) (2 ^ o.toNat) n.toNat) n.toNat
theorem win_hit {ws : List Nat} {v q s : Nat} (hv : v < ws.length) (hx : ws[v] < 2 ^ 64) (h : ws[v] &&& maskR v q (q + s) ≠ 0) : ∃ j, q ≤ j ∧ j < q + s ∧ bitN ws j = true := by
  obtain ⟨j, hj, hb⟩ := ne_zero_bit h (Nat.and_lt_two_pow _ (mask_lt _ _ _))
  rw [Nat.testBit_and, mask_bit] at hb
  simp only [Bool.and_eq_true, decide_eq_true_eq] at hb
  exact ⟨64 * v + j, hb.2.2.1, hb.2.2.2, by rw [bitN_at _ _ _ hj, List.getElem?_eq_getElem hv]; exact hb.1⟩
theorem win_clear {ws : List Nat} {v q s : Nat} (hv : v < ws.length) (hx : ws[v] < 2 ^ 64) (h : ws[v] &&& maskR v q (q + s) = 0) (hp : ∀ i, q ≤ i → i < q + s → i < 64 * v → bitN ws i = false) :
    ∀ i, q ≤ i → i < q + s → i < 64 * (v + 1) → bitN ws i = false := by
  intro i h1 h2 h3
  by_cases h4 : i < 64 * v
  · exact hp i h1 h2 h4
  · have hj : i - 64 * v < 64 := by omega
    have hb := congrArg (fun y => y.testBit (i - 64 * v)) h
    simp only [Nat.testBit_and, mask_bit, Nat.zero_testBit] at hb
    have e : decide (i - 64 * v < 64 ∧ q ≤ 64 * v + (i - 64 * v) ∧ 64 * v + (i - 64 * v) < q + s) = true := by simp; omega
    rw [e, Bool.and_true] at hb
    have := bitN_at ws v (i - 64 * v) hj
    rw [show 64 * v + (i - 64 * v) = i by omega, List.getElem?_eq_getElem hv] at this
    rw [this]; exact hb
/-- Between one multiple and the next there is none. -/
theorem mult_step {q s i : Nat} (hs : 1 ≤ s) (hq : q % s = 0) (h1 : q ≤ i) (h2 : i < q + s) (h : i % s = 0) : i = q := by
  obtain ⟨d, rfl⟩ : ∃ d, i = q + d := ⟨i - q, by omega⟩
  rw [Nat.add_mod, hq, Nat.zero_add, Nat.mod_mod, Nat.mod_eq_of_lt (by omega)] at h
  omega
theorem size_val : ∀ k, k < 13 → IntKind.i64.wrap (2 ^ k) = ((2 ^ k : Nat) : Int) ∧ wrap64 (2 ^ k) = ((2 ^ k : Nat) : Int) ∧ 1 ≤ 2 ^ k ∧ 2 ^ k ≤ 4096 := by decide +kernel

set_option maxHeartbeats 2000000 in
set_option maxRecDepth 100000 in
theorem block_any (n : Int) (p : Option Addr) (cap : Nat) (ws : List Nat) (o : Int) (w : World) (h : WordsAt w p ws) :
    Calls Tryd.prog 39 #[.agg #[.int .i64 n, .slice p ws.length cap], .int .i64 o] w (IntErr (blockR n ws o) w) := by
  have ck := fun W (hW : Below w.heap.size w W) => check_any n p cap ws W (h.below hW)
  have e : blockR n ws o = if blockE n ws o ≠ 0 then (0, blockE n ws o) else findR (blockP (bitN ws) (2 ^ o.toNat) n.toNat) n.toNat := rfl
  have ee : blockE n ws o = if checkR n ws ≠ 0 then checkR n ws else if o < 0 ∨ 12 < o then 7 else 0 := rfl
  have hok := checkR_ok (n := n) h.lt
  have HW := Lib.hid h
  generalize checkR n ws = c at ck ee hok
  generalize blockR n ws o = r at e
  generalize blockE n ws o = er at e ee
  clear h
  by_cases hgood : c = 0 ∧ 0 ≤ o ∧ o ≤ 12
  · obtain ⟨rfl, ho0, ho12⟩ := hgood
    obtain ⟨hn0, hv⟩ := hok rfl
    rw [if_neg (by simp), if_neg (by omega)] at ee
    rw [ee, if_neg (by simp)] at e
    obtain ⟨m, rfl⟩ : ∃ m : Nat, n = (m : Int) := ⟨n.toNat, by omega⟩
    rw [Int.toNat_natCast] at e hv
    obtain ⟨k, rfl⟩ : ∃ k : Nat, o = (k : Int) := ⟨o.toNat, by omega⟩
    rw [Int.toNat_natCast] at e
    obtain ⟨s1, s2, s3, s4⟩ := size_val k (by omega)
    obtain ⟨hr1, hr2⟩ := valid_room hv
    have hm := hv.le
    obtain ⟨s, hs⟩ : ∃ s : Nat, s = 2 ^ k := ⟨_, rfl⟩
    rw [← hs] at s1 s2 s3 s4 e
    have CK := Lib.hid ck; have E := Lib.hid e
    have s6 : (2 : Int) ^ k = ((s : Nat) : Int) := by rw [hs]; simp
    have s7 : wrap64 ((s : Nat) : Int) = ((s : Nat) : Int) := IntWalk.wrap64_in _ (by omega)
    have S6 := Lib.hid s6; have S7 := Lib.hid s7; have HS := Lib.hid hs
    clear ck e ee hok hv s1 s2 s6 s7 hs
    go_enter Tryd.func39, Tryd.ntmps39
    have s0 : (0 : Int) ≤ s := by omega
    have s5 : (s : Int) ≤ 4096 := by omega
    have k12 : (k : Int) ≤ 12 := by omega
    go_wp2_with fail
    go_step3
    go_wp2_with (go_at_call 19; refine (CK.out _ ((Below.refl _ _).alloc (Nat.le_refl _) _)).mono ?_; rintro e w1 ⟨rfl, hb⟩; have HB := Lib.hid (boxB hb); have HX := Lib.hid ((BoxAt.new w m (.slice p ws.length cap) 24).below hb); clear hb)
    go_step3
    go_wp2_with fail
    rw [S6.out, S7.out]
    go_loopg [8] (m + 1) (fun n i wr => ∃ q : Nat, q + n = m + 1 ∧ q ≤ m ∧ q % s = 0 ∧ i = .int .i64 q ∧ Below w.heap.size w wr ∧ BoxAt wr w.heap.size m (.slice p ws.length cap) ∧ ∀ i, i < q → blockP (bitN ws) s m i = false)
    case atStart => exact ⟨0, by omega, Nat.zero_le _, Nat.zero_mod _, by go_num, HB.out, HX.out, fun i h => absurd h (Nat.not_lt_zero _)⟩
    case round =>
      clear HB HX
      obtain ⟨q, hqn, hqm, hqs, rfl, hbw, hbox, hno⟩ := hrel
      have b0 := hbox.c0
      have HB := Lib.hid hbw; have HX := Lib.hid hbox; have HNO := Lib.hid hno; have HQS := Lib.hid hqs
      clear hbw hbox hno hqs
      have q4 : (q : Int) ≤ 4096 := by omega
      have q0 : (0 : Int) ≤ q := by omega
      by_cases hfit : q + s ≤ m
      · have i1 : (q : Int) + s ≤ m := by omega
        go_wp2_with fail
        go_loopg [9] (ws.length - q / 64) (fun n i wr => ∃ v : Nat, v + n = ws.length ∧ q / 64 ≤ v ∧ i = .int .i64 v ∧ Below w.heap.size w wr ∧ BoxAt wr w.heap.size m (.slice p ws.length cap) ∧ ∀ i, q ≤ i → i < q + s → i < 64 * v → bitN ws i = false)
        case atStart => exact ⟨q / 64, by omega, Nat.le_refl _, congrArg (Value.int .i64) (by omega), HB.out, HX.out, fun i h1 h2 h3 => by omega⟩
        case round =>
          clear HB HX b0
          obtain ⟨v, hvn, hqv, rfl, hbw, hbox, hcl⟩ := hrel
          have b0 := hbox.c0
          have b1 := hbox.c1
          have HB := Lib.hid hbw; have HX := Lib.hid hbox; have HCL := Lib.hid hcl
          clear hbw hbox hcl
          have v4 : (v : Int) ≤ 4096 := by omega
          have v0 : (0 : Int) ≤ v := by omega
          by_cases hin : 64 * v < q + s
          · obtain ⟨n', rfl⟩ : ∃ n', gk = n' + 1 := ⟨gk - 1, by omega⟩
            have hvl : v < ws.length := by omega
            obtain ⟨g, off, rfl, hg, hcw⟩ := (HW.out.below HB.out).at_ (by omega)
            have c1 := hcw v hvl
            have hx := word_in HW.out.lt v hvl
            have i2 : (v : Int) * 64 < q + s := by omega
            have i3 : (v : Int) < ws.length := by omega
            have cm := fun W => mask_any v q (q + s) (by omega) (by omega) (by omega) W
            have e3 := u64_and_nat ws[v] (maskR v q (q + s)) hx (mask_lt _ _ _)
            have e4 : IntKind.i64.wrap ((q : Int) + (s : Int)) = ((q + s : Nat) : Int) := by rw [IntWalk.i64_in _ (by omega)]; omega
            have hb1 := fun hy => win_hit (q := q) (s := s) hvl hx hy
            have hb2 := fun hy => win_clear (q := q) (s := s) hvl hx hy HCL.out
            generalize ws[v] = x at c1 hx e3 hb1 hb2
            generalize maskR v q (q + s) = M at cm e3 hb1 hb2
            generalize x &&& M = y at e3 hb1 hb2
            have CM := Lib.hid cm; have HB1 := Lib.hid hb1; have HB2 := Lib.hid hb2
            clear cm hb1 hb2 hcw hx
            by_cases hy : y = 0
            · have hcl2 := HB2.out hy
              have HC2 := Lib.hid hcl2
              have t1 : ((bits .and .u64 (x : Int) (M : Int)) != 0) = false := by rw [e3, hy]; rfl
              clear hcl2 e3 hy
              go_wp2_with fail
              go_quiet ((go_at_call 53; exact Calls.quiet_of_same ((CM.out _).mono fun _ _ ⟨a, b⟩ => ⟨a, b.symm⟩)))
              clear e4
              go_wp2_with fail
              go_roundg n'
              case measure => omega
              case rel => exact ⟨v + 1, by omega, by omega, by go_num, HB.out.trans (drewB _ _ _), HX.out.below (drewB _ _ _), HC2.out⟩
            · obtain ⟨j, hj1, hj2, hj3⟩ := HB1.out hy
              have t1 : ((bits .and .u64 (x : Int) (M : Int)) != 0) = true := by rw [e3, bne_iff_ne]; omega
              have hnx : ∀ i, i < q + s → blockP (bitN ws) s m i = false := by
                intro i hi
                by_cases h1 : i < q
                · exact HNO.out i h1
                · unfold blockP
                  by_cases h2 : i % s = 0
                  · obtain rfl := mult_step (by omega) HQS.out (by omega) hi h2
                    rw [clearRun_no hj1 hj2 hj3]; simp
                  · have : (i % s == 0) = false := beq_eq_false_iff_ne.2 h2
                    rw [this]; rfl
              have HNX := Lib.hid hnx
              clear hnx e3 hy
              go_wp2_with fail
              go_quiet ((go_at_call 53; exact Calls.quiet_of_same ((CM.out _).mono fun _ _ ⟨a, b⟩ => ⟨a, b.symm⟩)))
              clear e4
              go_wp2_with fail
              go_roundg (m + 1 - (q + s))
              case measure => omega
              case rel => exact ⟨q + s, by omega, by omega, by rw [Nat.add_mod_right]; exact HQS.out, by go_num, HB.out.trans (drewB _ _ _), HX.out.below (drewB _ _ _), HNX.out⟩
          · have i2 : ¬ (v : Int) * 64 < q + s := by omega
            have hf : findR (blockP (bitN ws) s m) m = ((q : Int), 0) := by
              refine findR_some (by omega) ?_ HNO.out
              unfold blockP
              have h1 : (q % s == 0) = true := by rw [HQS.out]; rfl
              have h2 : decide (q + s ≤ m) = true := by simpa using hfit
              rw [h1, h2, (clearRun_iff _ _ _).2 (fun i a1 a2 => HCL.out i a1 a2 (by omega))]; rfl
            have HF := Lib.hid hf
            clear hf
            go_wp2_with fail
            try rw [Exit.noGoto_ret]
            go_ret2
            exact intErr_mk (by rw [E.out, HF.out]) HB.out
      · have i1 : ¬ (q : Int) + s ≤ m := by omega
        have hf : findR (blockP (bitN ws) s m) m = (0, 4) := by
          refine findR_none fun i hi => ?_
          by_cases h1 : i < q
          · exact HNO.out i h1
          · unfold blockP
            have : decide (i + s ≤ m) = false := by simp; omega
            rw [this]; simp
        have HF := Lib.hid hf
        clear hf
        go_wp2_with fail
        try rw [Exit.noGoto_ret]
        go_ret2
        exact intErr_mk (by rw [E.out, HF.out]) HB.out
  · have hne : er ≠ 0 := by
      rw [ee]
      by_cases h1 : c ≠ 0
      · rw [if_pos h1]; exact h1
      · rw [if_neg h1, if_pos (by omega)]; decide
    rw [if_pos hne] at e
    have E := Lib.hid e; have CK := Lib.hid ck
    clear e hne hok ck
    by_cases h1 : c ≠ 0
    · rw [if_pos h1] at ee
      subst ee
      obtain ⟨t1, t2⟩ := neq0 h1
      clear h1 hgood
      go_enter Tryd.func39, Tryd.ntmps39
      go_wp2_with fail
      go_step3
      go_wp2_with (go_at_call 19; refine (CK.out _ ((Below.refl _ _).alloc (Nat.le_refl _) _)).mono ?_; rintro e w1 ⟨rfl, hb⟩; have HB := Lib.hid (boxB hb); clear hb)
      try rw [Exit.noGoto_ret]
      go_ret2
      exact intErr_mk E.out HB.out
    · obtain rfl : c = 0 := Classical.not_not.1 h1
      rw [if_neg h1, if_pos (by omega)] at ee
      subst ee
      have h2 : o < 0 ∨ (¬ o < 0 ∧ 12 < o) := by omega
      clear hgood h1
      rcases h2 with h2 | ⟨h2, h3⟩
      all_goals
        go_enter Tryd.func39, Tryd.ntmps39
        go_wp2_with fail
        go_step3
        go_wp2_with (go_at_call 19; refine (CK.out _ ((Below.refl _ _).alloc (Nat.le_refl _) _)).mono ?_; rintro e w1 ⟨rfl, hb⟩; have HB := Lib.hid (boxB hb); clear hb)
        try rw [Exit.noGoto_ret]
        go_ret2
        exact intErr_mk E.out HB.out
end Go.Proofs.YtocgdibadcmnfaaDoor
