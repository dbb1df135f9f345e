/- spans: Minus, Not. -/
import Derived.Test.YtnhbilcpdombfaaSpSets
namespace Go.Proofs.Ytnhbilcpdombfaa
open Go.RowKit

theorem minus_set {a b : List (Nat × Nat)} (ha : IsSet 1024 a) (hb : IsSet 1024 b) (q q' : Option Addr) (c c' : Nat) : setF (fun p => decide (2 ≤ cov (flatL [(q, c, a), (q', c', restR b)] 2) p)) 1024 = setF (fun p => inS a p && !inS b p) 1024 := by
  obtain ⟨h1, h2, _⟩ := restR_ok hb
  rw [and_pred ha h1]
  exact setF_congr fun p hp => by rw [h2 p hp]
set_option maxHeartbeats 4000000 in
set_option maxRecDepth 100000 in
theorem minus_any (a b : List (Int × Int)) (p q : Option Addr) (c d : Nat) (w : World) (h : SpsAt w p a) (h' : SpsAt w q b) :
    Calls Try.prog 22 #[.slice p a.length c, .slice q b.length d] w (SpsErr (minusR a b) w) := by
  have ck := fun W (hW : Below w.heap.size w W) t => checkAll_any [(p, c, a), (q, d, b)] (some ⟨W.heap.size, 0, none⟩) 2 (W.alloc (.cells #[.slice p a.length c, .slice q b.length d] t)) (liAt_two W p q c d a b t (h.below hW) (h'.below hW)) (by simp)
  unfold ErrPost at ck
  rw [show ([(p, c, a), (q, d, b)] : List (Option Addr × Nat × List (Int × Int))).length = 2 from rfl, allR_two] at ck
  have e : minusR a b = joinedR (fun p => inS (down a) p && !inS (down b) p) (setsE a b) := rfl
  unfold joinedR at e
  have hok := setsE_ok (a := a) (b := b)
  have HP := Lib.hid h; have HQ := Lib.hid h'
  generalize setsE a b = cc at ck e hok
  generalize minusR a b = r at e
  have CK := Lib.hid ck
  clear ck h h'
  by_cases hc : cc ≠ 0
  · rw [if_pos hc] at e
    obtain ⟨t1, t2⟩ := neq0 hc
    have E := Lib.hid e
    clear e hc hok
    go_enter Try.func22, Try.ntmps22
    go_wp2_with fail
    refine (CK.out _ (Below.refl _ _) _).mono ?_
    rintro e w1 ⟨rfl, hb⟩
    have HB1 := Lib.hid (boxB hb)
    clear hb
    go_wp2_with fail
    go_ret2
    exact spsErr_err E.out HB1.out
  · obtain rfl : cc = 0 := Classical.not_not.1 hc
    rw [if_neg (by simp)] at e
    obtain ⟨ha, hb⟩ := hok rfl
    obtain ⟨a1, a2, a3⟩ := check_set ha
    obtain ⟨b1, b2, b3⟩ := check_set hb
    have ua := up_down a1; have ub := up_down b1
    obtain ⟨r1, _, r3⟩ := restR_ok b2
    rw [down_len] at r3
    have cr := fun W (hW : Below w.heap.size w W) => rest_any (down b) q d W (by rw [ub]; exact HQ.out.below hW) b2 (by rw [down_len]; omega)
    unfold SpsPost at cr
    rw [down_len] at cr
    have hor : Okay (restR (down b)) := fun x hx => r1.run x hx
    have hpr := minus_set a2 b2
    have cj := fun W (hW : Below w.heap.size w W) t q' c' (hr : SpsAt W q' (up (restR (down b)))) => join_any 2 [(p, c, down a), (q', c', restR (down b))] (some ⟨W.heap.size, 0, none⟩) 2 (W.alloc (.cells #[.slice p (down a).length c, .slice q' (restR (down b)).length c'] t)) (lsAt_two W p q' c c' (down a) (restR (down b)) t (by rw [ua]; exact HP.out.below hW) hr) (by simp) (fun x hx => by
      rcases List.mem_cons.1 hx with rfl | hx
      · exact ⟨down_okay a1, len_bound a3 (down_len a)⟩
      · obtain rfl := List.mem_singleton.1 hx
        exact ⟨hor, by show (restR (down b)).length ≤ 2100; omega⟩) (by omega) (by omega)
    unfold SpsPost at cj
    have cj2 : ∀ W (hW : Below w.heap.size w W) t q' c' (hr : SpsAt W q' (up (restR (down b)))), _ := fun W hW t q' c' hr => by
      have := cj W hW t q' c' hr
      rw [show ([(p, c, down a), (q', c', restR (down b))] : List (Option Addr × Nat × List (Nat × Nat))).length = 2 from rfl, hpr, down_len] at this
      exact this
    have CJ := Lib.hid cj2; have CR := Lib.hid cr; have HOR := Lib.hid hor
    have hrl : (restR (down b)).length ≤ 100000 := by omega
    have E := Lib.hid e
    clear e hc hok ha hb cj cj2 cr hpr hor
    generalize restR (down b) = R at CJ CR HOR hrl r1 r3
    go_enter Try.func22, Try.ntmps22
    go_wp2_with fail
    refine (CK.out _ (Below.refl _ _) _).mono ?_
    rintro e w1 ⟨rfl, hb⟩
    have HB1 := Lib.hid (boxB hb)
    clear hb a1 a2 a3 b1 b2 b3 ua ub r1 r3
    go_wp2_with fail
    refine (CR.out _ HB1.out).mono ?_
    rintro e w2 ⟨v, rfl, hb, ho⟩
    obtain ⟨qr, cr, rfl, hsr⟩ := own_sps ho HOR.out hrl
    have HB2 := Lib.hid (HB1.out.trans (hb.mono HB1.out.size))
    have HSR := Lib.hid hsr
    clear hb ho hsr
    go_wp2_with fail
    refine (CJ.out _ HB2.out _ _ _ HSR.out).mono ?_
    rintro e w3 ⟨v, rfl, hb, ho⟩
    have HB3 := Lib.hid (HB2.out.trans ((boxB hb).mono HB2.out.size))
    have HO := Lib.hid (ownsRow_base ho (show w.heap.size ≤ _ from by have := HB2.out.size; simp; omega))
    clear hb ho
    go_wp2_with fail
    go_ret2
    exact spsErr_mk E.out HB3.out HO.out
end Go.Proofs.Ytnhbilcpdombfaa
