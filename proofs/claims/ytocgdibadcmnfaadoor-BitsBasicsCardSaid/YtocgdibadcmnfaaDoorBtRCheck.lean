/- The reference of layer 2: words, Check, Same. -/
import Derived.Test.YtocgdibadcmnfaaDoorBtAwake
namespace Go.Proofs.YtocgdibadcmnfaaDoor
open Go.RowKit Go.Shelf

theorem rwords_any (n : Nat) (hn : n ≤ 100000) (w : World) : Calls Tryd.prog 55 #[.int .i64 (n : Int)] w fun e w' => e = .returned (.int .i64 ((lenW n : Nat) : Int)) ∧ w = w' := by
  have n1 : (n : Int) ≤ 100000 := by omega
  have n0 : (0 : Int) ≤ n := by omega
  have e : ((n : Int) + 63) / 64 = ((lenW n : Nat) : Int) := by unfold lenW; omega
  have E := Lib.hid e; clear e hn
  go_enter Tryd.func55, Tryd.ntmps55
  go_wp2_with fail
  go_ret
  exact ⟨ret_int E.out, rfl⟩
theorem bit_expr (x j : Nat) (hx : x < 18446744073709551616) : (bits .and .u64 ((x : Int) / 2 ^ j) 1 == 1) = x.testBit j := by
  have e : bits .and .u64 ((x : Int) / 2 ^ j) 1 = ((x / 2 ^ j &&& 1 : Nat) : Int) := by
    have := and_div x 1 (2 ^ j) hx (by decide)
    rw [show ((2 ^ j : Nat) : Int) = (2 : Int) ^ j by simp] at this
    exact this
  rw [e, nat_mask1, Nat.testBit_eq_decide_div_mod_eq, Bool.eq_iff_iff, beq_iff_eq, decide_eq_true_eq]
  omega
theorem checkR_bit {n : Nat} {ws : List Nat} {i : Nat} (hn : n ≤ 4096) (hl : ws.length = lenW n) (h1 : n ≤ i) (h2 : i < 64 * ws.length) (h : bitN ws i = true) : checkR n ws = 6 := by
  unfold checkR
  rw [if_neg (by omega), Int.toNat_natCast, if_neg (by rw [hl]; simp), if_pos]
  rw [List.any_eq_true]
  exact ⟨i, List.mem_range.2 h2, by simp [h1, h]⟩
theorem checkR_bits {n : Nat} {ws : List Nat} (hn : n ≤ 4096) (hl : ws.length = lenW n) (h : ∀ i, n ≤ i → i < 64 * ws.length → bitN ws i = false) : checkR n ws = 0 := by
  unfold checkR
  rw [if_neg (by omega), Int.toNat_natCast, if_neg (by rw [hl]; simp), if_neg]
  rw [List.any_eq_true]
  rintro ⟨i, hi, hb⟩
  simp only [Bool.and_eq_true, decide_eq_true_eq] at hb
  rw [h i hb.1 (List.mem_range.1 hi)] at hb
  exact absurd hb.2 (by decide)

set_option maxHeartbeats 1000000 in
set_option maxRecDepth 100000 in
theorem rcheck_any (n : Int) (p : Option Addr) (cap : Nat) (ws : List Nat) (w : World) (h : WordsAt w p ws) :
    Calls Tryd.prog 20 #[.agg #[.int .i64 n, .slice p ws.length cap]] w fun e w' => e = .returned (.int .i64 (checkR n ws)) ∧ Below w.heap.size w w' := by
  have hlm := h.len
  unfold maxLen at hlm
  by_cases h1 : n < 0
  · have e : checkR n ws = 7 := by unfold checkR; rw [if_pos (.inl h1)]
    have E := Lib.hid e; clear e
    go_enter Tryd.func20, Tryd.ntmps20
    go_wp2_with fail
    go_ret
    exact ⟨ret_int E.out.symm, (Below.refl _ _).alloc (Nat.le_refl _) _⟩
  · by_cases h2 : 4096 < n
    · have e : checkR n ws = 7 := by unfold checkR; rw [if_pos (.inr h2)]
      have E := Lib.hid e; clear e
      go_enter Tryd.func20, Tryd.ntmps20
      go_wp2_with fail
      go_ret
      exact ⟨ret_int E.out.symm, (Below.refl _ _).alloc (Nat.le_refl _) _⟩
    · obtain ⟨m, rfl⟩ : ∃ m : Nat, n = (m : Int) := ⟨n.toNat, by omega⟩
      have hm : m ≤ 4096 := by omega
      have cl := fun W => rwords_any m (by omega) W
      have CL := Lib.hid cl; have HA := Lib.hid h; clear cl h
      by_cases h3 : ws.length = lenW m
      · rw [← h3] at CL
        have H3 := Lib.hid h3; clear h3
        have hl64 : ws.length ≤ 64 := by have := H3.out; unfold lenW at this; omega
        have hlo : m ≤ 64 * ws.length := by have := H3.out; unfold lenW at this; omega
        have l64 : (ws.length : Int) ≤ 64 := by omega
        go_enter Tryd.func20, Tryd.ntmps20
        go_wp2_with fail
        go_quiet ((go_at_call 55; exact Calls.quiet_of_same ((CL.out _).mono fun _ _ ⟨a, b⟩ => ⟨a, b.symm⟩)))
        go_wp2_with fail
        go_loop [3] (fun i => ∃ k : Nat, m ≤ k ∧ k ≤ 64 * ws.length ∧ i = .int .i64 k ∧ ∀ j, m ≤ j → j < k → bitN ws j = false) (fun i => 64 * ws.length - (intOf i).toNat)
        case atStart => exact ⟨m, Nat.le_refl _, hlo, by go_num, fun j h1 h2 => by omega⟩
        case round =>
          obtain ⟨k, hmk, hk, rfl, hall⟩ := hrel
          have HALL := Lib.hid hall; clear hall
          by_cases hlt : k < 64 * ws.length
          · have hq : k / 64 < ws.length := by omega
            obtain ⟨g, off, rfl, hg, hc⟩ := HA.out.at_ (by omega)
            have c0 := hc (k / 64) hq
            have hb := bitN_in (ws := ws) hq
            have i1 : (k : Int) < 64 * ws.length := by omega
            have k0 : (0 : Int) ≤ k := by omega
            have k4 : (k : Int) ≤ 4096 := by omega
            have i2 : (k : Int) / 64 < ws.length := by omega
            have hx := word_in HA.out.lt (k / 64) hq
            have ht := bit_expr ws[k / 64] (k % 64) hx
            rw [← hb] at ht
            have hbad := checkR_bit hm H3.out hmk hlt
            generalize ws[k / 64] = x at c0 ht
            clear hc hb hx
            cases hbit : bitN ws k
            · rw [hbit] at ht
              have hnx : ∀ j, m ≤ j → j < k + 1 → bitN ws j = false := by
                intro j h1 h2
                by_cases e : j = k
                · subst e; exact hbit
                · exact HALL.out j h1 (by omega)
              have HNX := Lib.hid hnx
              clear hnx hbit hbad
              go_wp2_with fail
              go_round
              case rel => exact ⟨k + 1, by omega, by omega, by go_num, HNX.out⟩
              case measure => simp [intOf]; omega
            · rw [hbit] at ht
              have HBAD := Lib.hid (hbad hbit)
              clear hbit hbad
              go_wp2_with fail
              go_ret
              exact ⟨ret_int HBAD.out.symm, ((Below.refl _ _).alloc (Nat.le_refl _) _).trans (drewB _ _ _)⟩
          · have hg := checkR_bits hm H3.out (fun i h1 h2 => HALL.out i h1 (by omega))
            have HG := Lib.hid hg
            have i1 : ¬ (k : Int) < 64 * ws.length := by omega
            clear hg
            go_wp2_with fail
            go_ret
            exact ⟨ret_int HG.out.symm, ((Below.refl _ _).alloc (Nat.le_refl _) _).trans (drewB _ _ _)⟩
      · have e : checkR m ws = 6 := by unfold checkR; rw [if_neg (by omega), Int.toNat_natCast, if_pos h3]
        have t1 : ((ws.length : Int) != ((lenW m : Nat) : Int)) = true := by rw [bne_iff_ne]; omega
        have E := Lib.hid e; clear e h3
        go_enter Tryd.func20, Tryd.ntmps20
        go_wp2_with fail
        go_quiet ((go_at_call 55; exact Calls.quiet_of_same ((CL.out _).mono fun _ _ ⟨a, b⟩ => ⟨a, b.symm⟩)))
        go_wp2_with fail
        go_ret
        exact ⟨ret_int E.out.symm, ((Below.refl _ _).alloc (Nat.le_refl _) _).trans (drewB _ _ _)⟩

set_option maxHeartbeats 1000000 in
set_option maxRecDepth 100000 in
theorem same_any (n : Int) (ws : List Nat) (p q : Option Addr) (c d : Nat) (w : World) (hp : WordsAt w p ws) (hq : WordsAt w q ws) :
    Calls Tryd.prog 21 #[.agg #[.int .i64 n, .slice p ws.length c], .agg #[.int .i64 n, .slice q ws.length d]] w (TruePost w) := by
  have hlm := hp.len
  unfold maxLen at hlm
  have HP := Lib.hid hp; have HQ := Lib.hid hq
  have hb2 : ∀ (o1 o2 : Obj), Below w.heap.size w ((w.alloc o1).alloc o2) := fun o1 o2 => (alloc2 w o1 o2).1
  have HBB := Lib.hid hb2
  clear hp hq hb2
  go_enter Tryd.func21, Tryd.ntmps21
  go_wp2_with fail
  go_loopg [5] ws.length (fun n1 i wr => ∃ k : Nat, k + n1 = ws.length ∧ i = .int .i64 k ∧ Below w.heap.size w wr ∧ BoxAt wr w.heap.size n (.slice p ws.length c) ∧ BoxAt wr (w.heap.size + 1) n (.slice q ws.length d))
  case atStart =>
    refine ⟨0, by omega, by go_num, HBB.out _ _, BoxAt.new1 _ _ _ _ _, ?_⟩
    have := BoxAt.new (w.alloc (.cells #[.int .i64 n, .slice p ws.length c] 24)) n (.slice q ws.length d) 24
    rwa [show (w.alloc (.cells #[.int .i64 n, .slice p ws.length c] 24)).heap.size = w.heap.size + 1 by simp] at this
  case round =>
    obtain ⟨k, hkn, rfl, hbw, hx, hy⟩ := hrel
    have b1 := hx.c1
    have b2 := hy.c1
    have HB := Lib.hid hbw; have HX := Lib.hid hx; have HY := Lib.hid hy
    clear hbw hx hy
    by_cases hlt : k < ws.length
    · obtain ⟨n', rfl⟩ : ∃ n', gk = n' + 1 := ⟨gk - 1, by omega⟩
      obtain ⟨g, off, rfl, hg, hc⟩ := (HP.out.below HB.out).at_ (by omega)
      obtain ⟨g2, off2, rfl, hg2, hc2⟩ := (HQ.out.below HB.out).at_ (by omega)
      have c0 := hc k hlt
      have c1 := hc2 k hlt
      generalize ws[k] = x at c0 c1
      have i1 : (k : Int) < ws.length := by omega
      have k0 : (0 : Int) ≤ k := by omega
      have t1 : ((x : Int) != (x : Int)) = false := by simp
      clear hc hc2
      go_wp2_with fail
      go_quiet (fail)
      go_wp2_with fail
      go_roundg n'
      case measure => omega
      case rel => exact ⟨k + 1, by omega, by go_num, HB.out.trans (drewB _ _ _), HX.out.below (drewB _ _ _), HY.out.below (drewB _ _ _)⟩
    · obtain rfl : k = ws.length := by omega
      go_wp2_with fail
      go_ret
      exact ⟨rfl, HB.out⟩
end Go.Proofs.YtocgdibadcmnfaaDoor
