/- The reference's Digits. -/
import Derived.Test.YtgldpdbdgjehkaaGreatDoorInts
import Derived.Test.YtgldpdbdgjehkaaGreatDoorQuotes
import Derived.Test.YtgldpdbdgjehkaaGreatDoorExpand
import Derived.IntWalk
import Derived.Lib.ItoaLen
namespace Go.Proofs.YtgldpdbdgjehkaaGreatDoor
open Go.RowKit

def DigPost (n : Int) (w : World) (e : Ending) (w' : World) : Prop := e = .returned (.string ⟨(Lib.itoa n).toArray⟩) ∧ Below w.heap.size w w'
theorem itoa_small (n : Int) (h0 : 0 ≤ n) (h9 : n < 10) : Lib.itoa n = [UInt8.ofNat (48 + n.toNat)] := by
  obtain ⟨u, rfl⟩ := Int.eq_ofNat_of_zero_le h0
  show Lib.itoa (u : Int) = _
  rw [Lib.itoa_nonneg, Lib.decDigits_one (by omega)]; rfl
theorem itoa_step (u : Nat) (h : ¬ u < 10) : Lib.itoa (u : Int) = Lib.itoa ((u / 10 : Nat) : Int) ++ Lib.itoa ((u % 10 : Nat) : Int) := by
  rw [Lib.itoa_nonneg, Lib.itoa_nonneg, Lib.itoa_nonneg, Lib.decDigits, dif_neg h, Lib.decDigits_one (i := u % 10) (by omega)]
theorem itoa_negstep (u : Nat) (h : ¬ u < 10) : Lib.itoa (-(u : Int)) = Lib.itoa (-((u / 10 : Nat) : Int)) ++ Lib.itoa ((u % 10 : Nat) : Int) := by
  rw [Lib.itoa_neg _ (by omega), Lib.itoa_neg _ (by omega), Lib.itoa_nonneg, Lib.decDigits, dif_neg h, Lib.decDigits_one (i := u % 10) (by omega)]; rfl

set_option maxHeartbeats 1000000 in
set_option maxRecDepth 100000 in
theorem rdig_small (n : Int) (h0 : 0 ≤ n) (h9 : n < 10) (w : World) : Calls Tryz.prog 22 #[.int .i64 n] w (DigPost n w) := by
  have h : n = 0 ∨ n = 1 ∨ n = 2 ∨ n = 3 ∨ n = 4 ∨ n = 5 ∨ n = 6 ∨ n = 7 ∨ n = 8 ∨ n = 9 := by omega
  clear h0 h9
  have hcv : ∀ c : UInt8, (convert 39 9 (.slice (some ⟨w.heap.size, 0, none⟩) 1 1)).run Tryz.prog (w.alloc (.cells #[.int .u8 (c.toNat : Int)] 5)) = .ok (.string ⟨#[c]⟩) (w.alloc (.cells #[.int .u8 (c.toNat : Int)] 5)) := fun c =>
    run_convert_bytes_back _ 39 9 5 ⟨w.heap.size, 0, none⟩ 1 [c] Tryz.underlying39 Tryz.underlying5 Tryz.underlying9 (fun j hj => by
      have hj0 : j = 0 := by simpa using hj
      subst hj0; exact cell_one_at _ _ _ _ rfl 0 _ rfl)
  have HCV := Lib.hid hcv; clear hcv
  rcases h with rfl | rfl | rfl | rfl | rfl | rfl | rfl | rfl | rfl | rfl
  · have hc : (convert 39 9 (.slice (some ⟨w.heap.size, 0, none⟩) 1 1)).run Tryz.prog (w.alloc (.cells #[.int .u8 48] 5)) = .ok (.string ⟨#[48]⟩) (w.alloc (.cells #[.int .u8 48] 5)) := HCV.out 48
    go_enter Tryz.func22, Tryz.ntmps22
    go_wp2_with fail
    go_ret
    exact ⟨ret_str (ba_eq (itoa_small 0 (by decide) (by decide)).symm), (Below.refl _ _).alloc (Nat.le_refl _) _⟩
  · have hc : (convert 39 9 (.slice (some ⟨w.heap.size, 0, none⟩) 1 1)).run Tryz.prog (w.alloc (.cells #[.int .u8 49] 5)) = .ok (.string ⟨#[49]⟩) (w.alloc (.cells #[.int .u8 49] 5)) := HCV.out 49
    go_enter Tryz.func22, Tryz.ntmps22
    go_wp2_with fail
    go_ret
    exact ⟨ret_str (ba_eq (itoa_small 1 (by decide) (by decide)).symm), (Below.refl _ _).alloc (Nat.le_refl _) _⟩
  · have hc : (convert 39 9 (.slice (some ⟨w.heap.size, 0, none⟩) 1 1)).run Tryz.prog (w.alloc (.cells #[.int .u8 50] 5)) = .ok (.string ⟨#[50]⟩) (w.alloc (.cells #[.int .u8 50] 5)) := HCV.out 50
    go_enter Tryz.func22, Tryz.ntmps22
    go_wp2_with fail
    go_ret
    exact ⟨ret_str (ba_eq (itoa_small 2 (by decide) (by decide)).symm), (Below.refl _ _).alloc (Nat.le_refl _) _⟩
  · have hc : (convert 39 9 (.slice (some ⟨w.heap.size, 0, none⟩) 1 1)).run Tryz.prog (w.alloc (.cells #[.int .u8 51] 5)) = .ok (.string ⟨#[51]⟩) (w.alloc (.cells #[.int .u8 51] 5)) := HCV.out 51
    go_enter Tryz.func22, Tryz.ntmps22
    go_wp2_with fail
    go_ret
    exact ⟨ret_str (ba_eq (itoa_small 3 (by decide) (by decide)).symm), (Below.refl _ _).alloc (Nat.le_refl _) _⟩
  · have hc : (convert 39 9 (.slice (some ⟨w.heap.size, 0, none⟩) 1 1)).run Tryz.prog (w.alloc (.cells #[.int .u8 52] 5)) = .ok (.string ⟨#[52]⟩) (w.alloc (.cells #[.int .u8 52] 5)) := HCV.out 52
    go_enter Tryz.func22, Tryz.ntmps22
    go_wp2_with fail
    go_ret
    exact ⟨ret_str (ba_eq (itoa_small 4 (by decide) (by decide)).symm), (Below.refl _ _).alloc (Nat.le_refl _) _⟩
  · have hc : (convert 39 9 (.slice (some ⟨w.heap.size, 0, none⟩) 1 1)).run Tryz.prog (w.alloc (.cells #[.int .u8 53] 5)) = .ok (.string ⟨#[53]⟩) (w.alloc (.cells #[.int .u8 53] 5)) := HCV.out 53
    go_enter Tryz.func22, Tryz.ntmps22
    go_wp2_with fail
    go_ret
    exact ⟨ret_str (ba_eq (itoa_small 5 (by decide) (by decide)).symm), (Below.refl _ _).alloc (Nat.le_refl _) _⟩
  · have hc : (convert 39 9 (.slice (some ⟨w.heap.size, 0, none⟩) 1 1)).run Tryz.prog (w.alloc (.cells #[.int .u8 54] 5)) = .ok (.string ⟨#[54]⟩) (w.alloc (.cells #[.int .u8 54] 5)) := HCV.out 54
    go_enter Tryz.func22, Tryz.ntmps22
    go_wp2_with fail
    go_ret
    exact ⟨ret_str (ba_eq (itoa_small 6 (by decide) (by decide)).symm), (Below.refl _ _).alloc (Nat.le_refl _) _⟩
  · have hc : (convert 39 9 (.slice (some ⟨w.heap.size, 0, none⟩) 1 1)).run Tryz.prog (w.alloc (.cells #[.int .u8 55] 5)) = .ok (.string ⟨#[55]⟩) (w.alloc (.cells #[.int .u8 55] 5)) := HCV.out 55
    go_enter Tryz.func22, Tryz.ntmps22
    go_wp2_with fail
    go_ret
    exact ⟨ret_str (ba_eq (itoa_small 7 (by decide) (by decide)).symm), (Below.refl _ _).alloc (Nat.le_refl _) _⟩
  · have hc : (convert 39 9 (.slice (some ⟨w.heap.size, 0, none⟩) 1 1)).run Tryz.prog (w.alloc (.cells #[.int .u8 56] 5)) = .ok (.string ⟨#[56]⟩) (w.alloc (.cells #[.int .u8 56] 5)) := HCV.out 56
    go_enter Tryz.func22, Tryz.ntmps22
    go_wp2_with fail
    go_ret
    exact ⟨ret_str (ba_eq (itoa_small 8 (by decide) (by decide)).symm), (Below.refl _ _).alloc (Nat.le_refl _) _⟩
  · have hc : (convert 39 9 (.slice (some ⟨w.heap.size, 0, none⟩) 1 1)).run Tryz.prog (w.alloc (.cells #[.int .u8 57] 5)) = .ok (.string ⟨#[57]⟩) (w.alloc (.cells #[.int .u8 57] 5)) := HCV.out 57
    go_enter Tryz.func22, Tryz.ntmps22
    go_wp2_with fail
    go_ret
    exact ⟨ret_str (ba_eq (itoa_small 9 (by decide) (by decide)).symm), (Below.refl _ _).alloc (Nat.le_refl _) _⟩
def StrPost (l : List UInt8) (w : World) (e : Ending) (w' : World) : Prop := e = .returned (.string ⟨l.toArray⟩) ∧ Below w.heap.size w w'
set_option maxHeartbeats 1000000 in
theorem rdig_two (u : Nat) (A B : List UInt8) (hA : A.length ≤ 21) (hB : B.length ≤ 21) (h10 : ¬ u < 10) (hm : u ≤ 9223372036854775807) (w : World)
    (h1 : ∀ W, Calls Tryz.prog 22 #[.int .i64 ((u / 10 : Nat) : Int)] W (StrPost A W))
    (h2 : ∀ W, Calls Tryz.prog 22 #[.int .i64 ((u % 10 : Nat) : Int)] W (StrPost B W)) :
    Calls Tryz.prog 22 #[.int .i64 (u : Int)] w (StrPost (A ++ B) w) := by
  have C1 := Lib.hid h1; have C2 := Lib.hid h2; clear h1 h2
  have hn0 : ¬ (u : Int) < 0 := by omega
  have hn1 : ¬ (u : Int) < 10 := by omega
  have q : wrap64 ((u : Int) / 10) = ((u / 10 : Nat) : Int) := by rw [IntWalk.wrap64_in _ (by omega)]; omega
  have Q := Lib.hid q; clear q hm
  go_enter Tryz.func22, Tryz.ntmps22
  go_wp2_with (first
    | (rw [Q.out]; go_at_call 22; refine (C1.out _).mono ?_; rintro e w1 ⟨rfl, hb1⟩; have HB1 := Lib.hid hb1; clear hb1 Q)
    | (go_at_call 22; refine (C2.out _).mono ?_; rintro e w2 ⟨rfl, hb2⟩; have HB2 := Lib.hid hb2; clear hb2))
  go_ret
  exact ⟨ret_str (ba_eq (by simp)), HB1.out.trans (HB2.out.mono HB1.out.size)⟩
theorem rdig_nat (u : Nat) : ∀ (_ : u ≤ 9223372036854775807) (w : World), Calls Tryz.prog 22 #[.int .i64 (u : Int)] w (DigPost (u : Int) w) := by
  induction u using Nat.strongRecOn with
  | _ u ih =>
    intro hm w
    by_cases h10 : u < 10
    · exact rdig_small (u : Int) (by omega) (by omega) w
    · have := rdig_two u (Lib.itoa ((u / 10 : Nat) : Int)) (Lib.itoa ((u % 10 : Nat) : Int)) (Lib.itoa_length_le _ (by omega) (by omega)) (Lib.itoa_length_le _ (by omega) (by omega)) h10 hm w
        (fun W => ih (u / 10) (by omega) (by omega) W) (fun W => ih (u % 10) (by omega) (by omega) W)
      rw [← itoa_step u h10] at this
      exact this
set_option maxHeartbeats 1000000 in
theorem rdig_neg1 (u : Nat) (A : List UInt8) (hA : A.length ≤ 21) (h0 : 0 < u) (h10 : u < 10) (w : World)
    (h1 : ∀ W, Calls Tryz.prog 22 #[.int .i64 (u : Int)] W (StrPost A W)) :
    Calls Tryz.prog 22 #[.int .i64 (-(u : Int))] w (StrPost (45 :: A) w) := by
  have C1 := Lib.hid h1; clear h1
  obtain ⟨n, hn⟩ : ∃ n : Int, -(u : Int) = n := ⟨_, rfl⟩
  rw [hn]
  have hn0 : n < 0 := by omega
  have hn1 : -10 < n := by omega
  have q : -n = (u : Int) := by omega
  have hlen : ¬ 9223372036854775807 < 1 + A.length := by omega
  have Q := Lib.hid q; clear q hn h0 h10
  go_enter Tryz.func22, Tryz.ntmps22
  go_wp2_with (rw [Q.out]; go_at_call 22; refine (C1.out _).mono ?_; rintro e w1 ⟨rfl, hb1⟩; have HB1 := Lib.hid hb1; clear hb1 Q)
  go_ret
  exact ⟨ret_str (ba_eq (by simp)), HB1.out⟩
set_option maxHeartbeats 1000000 in
theorem rdig_neg2 (u : Nat) (A B : List UInt8) (hA : A.length ≤ 21) (hB : B.length ≤ 21) (h10 : ¬ u < 10) (hm : u ≤ 9223372036854775808) (w : World)
    (h1 : ∀ W, Calls Tryz.prog 22 #[.int .i64 (-((u / 10 : Nat) : Int))] W (StrPost A W))
    (h2 : ∀ W, Calls Tryz.prog 22 #[.int .i64 ((u % 10 : Nat) : Int)] W (StrPost B W)) :
    Calls Tryz.prog 22 #[.int .i64 (-(u : Int))] w (StrPost (A ++ B) w) := by
  have C1 := Lib.hid h1; have C2 := Lib.hid h2; clear h1 h2
  obtain ⟨n, hn⟩ : ∃ n : Int, -(u : Int) = n := ⟨_, rfl⟩
  rw [hn]
  have hn0 : n < 0 := by omega
  have hn1 : ¬ -10 < n := by omega
  have e1 : n.tdiv 10 = -((u / 10 : Nat) : Int) := by rw [← hn, Int.neg_tdiv, Int.tdiv_eq_ediv_of_nonneg (by omega)]; omega
  have e2 : n.tmod 10 = -((u % 10 : Nat) : Int) := by rw [← hn, Int.neg_tmod, Int.tmod_eq_emod_of_nonneg (by omega)]; omega
  have q : wrap64 (n.tdiv 10) = -((u / 10 : Nat) : Int) := by rw [e1, IntWalk.wrap64_in _ (by omega)]
  have r : wrap64 (-(n.tmod 10)) = ((u % 10 : Nat) : Int) := by rw [e2, IntWalk.wrap64_in _ (by omega)]; omega
  have Q := Lib.hid q; have R := Lib.hid r; have E1 := Lib.hid e1; have E2 := Lib.hid e2; clear q r e1 e2 hm h10 hn
  go_enter Tryz.func22, Tryz.ntmps22
  go_wp2_with (first
    | (rw [Q.out]; go_at_call 22; refine (C1.out _).mono ?_; rintro e w1 ⟨rfl, hb1⟩; have HB1 := Lib.hid hb1; clear hb1 Q)
    | (rw [R.out]; go_at_call 22; refine (C2.out _).mono ?_; rintro e w2 ⟨rfl, hb2⟩; have HB2 := Lib.hid hb2; clear hb2))
  go_ret
  exact ⟨ret_str (ba_eq (by simp)), HB1.out.trans (HB2.out.mono HB1.out.size)⟩
theorem rdig_neg (u : Nat) : ∀ (_ : 0 < u) (_ : u ≤ 9223372036854775808) (w : World), Calls Tryz.prog 22 #[.int .i64 (-(u : Int))] w (DigPost (-(u : Int)) w) := by
  induction u using Nat.strongRecOn with
  | _ u ih =>
    intro h0 hm w
    by_cases h10 : u < 10
    · have := rdig_neg1 u (Lib.itoa (u : Int)) (Lib.itoa_length_le _ (by omega) (by omega)) h0 h10 w (fun W => rdig_nat u (by omega) W)
      rw [Lib.itoa_nonneg, ← Lib.itoa_neg u h0] at this
      exact this
    · have := rdig_neg2 u (Lib.itoa (-((u / 10 : Nat) : Int))) (Lib.itoa ((u % 10 : Nat) : Int)) (Lib.itoa_length_le _ (by omega) (by omega)) (Lib.itoa_length_le _ (by omega) (by omega)) h10 hm w
        (fun W => ih (u / 10) (by omega) (by omega) (by omega) W) (fun W => rdig_nat (u % 10) (by omega) W)
      rw [← itoa_negstep u h10] at this
      exact this
theorem rdigits_any (n : Int) (h0 : -9223372036854775808 ≤ n) (h1 : n ≤ 9223372036854775807) (w : World) : Calls Tryz.prog 22 #[.int .i64 n] w (DigPost n w) := by
  by_cases h : 0 ≤ n
  · obtain ⟨u, rfl⟩ := Int.eq_ofNat_of_zero_le h
    exact rdig_nat u (by omega) w
  · obtain ⟨u, hu⟩ := Int.eq_ofNat_of_zero_le (show 0 ≤ -n by omega)
    have e : n = -(u : Int) := by omega
    rw [e]
    exact rdig_neg u (by omega) (by omega) w
end Go.Proofs.YtgldpdbdgjehkaaGreatDoor
