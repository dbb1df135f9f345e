/- spans: Count. -/
import Derived.Test.YtnhbilcpdombfaaSpNot
namespace Go.Proofs.Ytnhbilcpdombfaa
open Go.RowKit

def IntErr (r : Int × Int) (w : World) (e : Ending) (w' : World) : Prop := e = .returned (.tuple #[.int .i64 r.1, .int .i64 r.2]) ∧ Below w.heap.size w w'
theorem intErr_mk {r : Int × Int} {a c : Int} {w w' : World} (h : r = (a, c)) (hb : Below w.heap.size w w') : IntErr r w (.returned (.tuple #[.int .i64 a, .int .i64 c])) w' := ⟨by rw [h], hb⟩
/-- How many pages so many spans have. -/
def sumS (s : List (Nat × Nat)) : Nat := s.foldl (fun n x => n + x.2) 0
theorem sumS_take (s : List (Nat × Nat)) (k : Nat) (h : k < s.length) : sumS (s.take (k + 1)) = sumS (s.take k) + (s[k]'h).2 := by
  unfold sumS; rw [List.take_add_one, List.getElem?_eq_getElem h, List.foldl_append]; rfl
def countR (l : List (Int × Int)) : Int × Int := if checkR l ≠ 0 then (0, checkR l) else ((sumS (down l) : Int), 0)
theorem sumS_bound {s : List (Nat × Nat)} (h : Okay s) : ∀ k, k ≤ s.length → sumS (s.take k) ≤ 1024 * k := by
  intro k
  induction k with
  | zero => intro _; simp [sumS]
  | succ k ih =>
    intro hk
    rw [sumS_take s k (by omega)]
    have := ih (by omega)
    have := (h _ (List.getElem_mem (show k < s.length by omega))).2
    omega
set_option maxHeartbeats 1000000 in
set_option maxRecDepth 100000 in
theorem count_any (l : List (Int × Int)) (p : Option Addr) (cap : Nat) (w : World) (h : SpsAt w p l) :
    Calls Try.prog 30 #[.slice p l.length cap] w (IntErr (countR l) w) := by
  have ck := fun W (hW : Below w.heap.size w W) => check_any l p cap W (h.below hW)
  have e : countR l = if checkR l ≠ 0 then (0, checkR l) else ((sumS (down l) : Int), 0) := rfl
  have hok := check_set (l := l)
  have HW := Lib.hid h
  unfold ErrPost at ck
  generalize checkR l = c at ck e hok
  generalize countR l = r at e
  have CK := Lib.hid ck
  clear ck h
  by_cases hc : c ≠ 0
  · rw [if_pos hc] at e
    obtain ⟨t1, t2⟩ := neq0 hc
    have E := Lib.hid e
    clear e hc hok
    go_enter Try.func30, Try.ntmps30
    go_wp2_with fail
    refine (CK.out _ (Below.refl _ _)).mono ?_
    rintro e w1 ⟨rfl, hb⟩
    have HB1 := Lib.hid hb
    clear hb
    go_wp2_with fail
    go_ret2
    exact intErr_mk E.out HB1.out
  · obtain rfl : c = 0 := Classical.not_not.1 hc
    rw [if_neg (by simp)] at e
    obtain ⟨h1, h2, h3⟩ := hok rfl
    have hud := up_down h1
    rw [← hud] at HW
    have hdl := down_len l
    have hokl := down_okay h1
    generalize down l = s at HW e hdl hokl
    rw [← hdl] at CK h3 ⊢
    have E := Lib.hid e; have HOK := Lib.hid hokl
    have l4 : (s.length : Int) ≤ 512 := by omega
    clear e hc hok h1 h2 hud hdl hokl
    go_enter Try.func30, Try.ntmps30
    go_wp2_with fail
    refine (CK.out _ (Below.refl _ _)).mono ?_
    rintro e w1 ⟨rfl, hb⟩
    have HB1 := Lib.hid hb
    clear hb
    go_wp2_with fail
    go_loopg [5, 15] s.length (fun n1 n i W => ∃ k : Nat, k + n1 = s.length ∧ i = .int .i64 k ∧ n = .int .i64 (sumS (s.take k) : Int) ∧ Below w.heap.size w W)
    case atStart => exact ⟨0, by omega, by go_num, by go_num, HB1.out⟩
    case round =>
      clear HB1
      obtain ⟨k, hkn, rfl, rfl, hbw⟩ := hrel
      have k0 : (0 : Int) ≤ k := by omega
      have hsb := sumS_bound HOK.out k (by omega)
      by_cases hlt : k < s.length
      · obtain ⟨n', rfl⟩ : ∃ n', gk = n' + 1 := ⟨gk - 1, by omega⟩
        obtain ⟨g, off, rfl, hg, hc⟩ := (HW.out.below hbw).at_ (by rw [up_len]; omega)
        obtain ⟨d0, d1⟩ := hc k (by rw [up_len]; exact hlt)
        rw [up_get] at d0 d1
        obtain ⟨v1, v2⟩ := HOK.out _ (List.getElem_mem hlt)
        have htk := sumS_take s k hlt
        have HTK := Lib.hid htk
        generalize sumS (s.take k) = m at hsb htk HTK ⊢
        generalize (s[k]'hlt).1 = a at d0 v2
        generalize (s[k]'hlt).2 = b at d1 v1 v2 htk HTK
        have HB := Lib.hid hbw
        have i1 : (k : Int) < s.length := by omega
        have m0 : (0 : Int) ≤ m := by omega
        have m4 : (m : Int) ≤ 1000000 := by omega
        have b0 : (0 : Int) ≤ b := by omega
        have b4 : (b : Int) ≤ 1024 := by omega
        clear hc htk hbw
        go_wp2_with fail
        go_roundg n'
        case measure => omega
        case rel => exact ⟨k + 1, by omega, by go_num, congrArg (Value.int .i64) (by have := HTK.out; omega), (HB.out.alloc HB.out.size _)⟩
      · obtain rfl : k = s.length := by omega
        rw [List.take_length] at hsb ⊢
        have HB := Lib.hid hbw
        have i1 : ¬ ((s.length : Nat) : Int) < s.length := by omega
        clear hbw
        go_wp2_with fail
        go_ret2
        exact intErr_mk E.out HB.out
end Go.Proofs.Ytnhbilcpdombfaa
