/- spans: Union, Meet, Minus, Not. -/
import Derived.Test.YtnhbilcpdombfaaSpAll
namespace Go.Proofs.Ytnhbilcpdombfaa
open Go.RowKit

def setsE (a b : List (Int × Int)) : Int := if checkR a ≠ 0 then checkR a else checkR b
theorem allR_two (q q' : Option Addr) (c c' : Nat) (a b : List (Int × Int)) : allR [(q, c, a), (q', c', b)] = setsE a b := by
  unfold allR setsE
  by_cases h : checkR a ≠ 0
  · rw [if_pos h, if_pos h]
  · rw [if_neg h, if_neg h]
    unfold allR
    by_cases h2 : checkR b ≠ 0
    · rw [if_pos h2]
    · rw [if_neg h2]; unfold allR; exact (Classical.not_not.1 h2).symm
theorem setsE_ok {a b : List (Int × Int)} (h : setsE a b = 0) : checkR a = 0 ∧ checkR b = 0 := by
  unfold setsE at h
  by_cases h1 : checkR a ≠ 0
  · rw [if_pos h1] at h; exact absurd h h1
  · rw [if_neg h1] at h; exact ⟨Classical.not_not.1 h1, h⟩
def joinedR (P : Nat → Bool) (e : Int) : List (Nat × Nat) × Int := if e ≠ 0 then ([], e) else (setF P 1024, 0)
def unionR (a b : List (Int × Int)) : List (Nat × Nat) × Int := joinedR (fun p => inS (down a) p || inS (down b) p) (setsE a b)
def meetR (a b : List (Int × Int)) : List (Nat × Nat) × Int := joinedR (fun p => inS (down a) p && inS (down b) p) (setsE a b)
def minusR (a b : List (Int × Int)) : List (Nat × Nat) × Int := joinedR (fun p => inS (down a) p && !inS (down b) p) (setsE a b)
def notR (s : List (Int × Int)) (x : Int × Int) : List (Nat × Nat) × Int := joinedR (fun p => inS (down [x]) p && !inS (down s) p) (withR s x)
/-- What is in memory of its own may be read as spans. -/
theorem own_sps {W : World} {base : Nat} {v : Value} {s : List (Nat × Nat)} (h : W.ownsRow base 31 2 v s.length (SpC s)) (ho : Okay s) (hl : s.length ≤ 100000) : ∃ q cap, v = .slice q s.length cap ∧ SpsAt W q (up s) := by
  have hfit : ∀ x ∈ up s, Fits x := fun x hx => by
    obtain ⟨y, hy, rfl⟩ := List.mem_map.1 hx
    have := ho y hy
    unfold Fits; simp only; omega
  have hget : ∀ (s : List (Nat × Nat)) j (hj : j < s.length), (SpC s)[j * 2]? = some (.int .i64 ((s[j]'hj).1 : Int)) ∧ (SpC s)[j * 2 + 1]? = some (.int .i64 ((s[j]'hj).2 : Int)) := by
    intro s
    induction s with
    | nil => intro j hj; simp at hj
    | cons x s ih =>
      intro j hj
      have e : SpC (x :: s) = .int .i64 (x.1 : Int) :: .int .i64 (x.2 : Int) :: SpC s := by simp [SpC]
      rw [e]
      cases j with
      | zero => exact ⟨rfl, rfl⟩
      | succ j =>
        have := ih j (by simpa using hj)
        rw [show (j + 1) * 2 = j * 2 + 1 + 1 by omega]
        exact this
  rcases h.2 with ⟨rfl, h0⟩ | ⟨g, cap, cur, rfl, hb, hg, _⟩
  · have : s = [] := List.length_eq_zero_iff.1 h0
    subst this
    exact ⟨none, 0, rfl, SpsAt.none_ _ _⟩
  · refine ⟨some ⟨g, 0, none⟩, cap, rfl, by rw [up_len]; unfold maxLen; omega, hfit, fun _ => ⟨g, 0, rfl, (Array.getElem?_eq_some_iff.1 hg).1, fun j hj => ?_⟩⟩
    have hj' : j < s.length := by rw [up_len] at hj; exact hj
    obtain ⟨e0, e1⟩ := hget s j hj'
    have c0 := h.cells (g := g) rfl (j * 2) _ e0
    have c1 := h.cells (g := g) rfl (j * 2 + 1) _ e1
    rw [WideShapes.add_plain] at c0 c1
    rw [up_get]
    exact ⟨c0, by rw [Nat.add_assoc]; exact c1⟩
theorem len_bound {s : List (Nat × Nat)} {l : List (Int × Int)} (h : l.length ≤ 512) (e : s.length = l.length) : s.length ≤ 2100 := by omega

set_option maxHeartbeats 4000000 in
set_option maxRecDepth 100000 in
theorem union_any (a b : List (Int × Int)) (p q : Option Addr) (c d : Nat) (w : World) (h : SpsAt w p a) (h' : SpsAt w q b) :
    Calls Try.prog 18 #[.slice p a.length c, .slice q b.length d] w (SpsErr (unionR a b) w) := by
  have ck := fun W (hW : Below w.heap.size w W) t => checkAll_any [(p, c, a), (q, d, b)] (some ⟨W.heap.size, 0, none⟩) 2 (W.alloc (.cells #[.slice p a.length c, .slice q b.length d] t)) (liAt_two W p q c d a b t (h.below hW) (h'.below hW)) (by simp)
  unfold ErrPost at ck
  rw [show ([(p, c, a), (q, d, b)] : List (Option Addr × Nat × List (Int × Int))).length = 2 from rfl, allR_two] at ck
  have e : unionR a b = joinedR (fun p => inS (down a) p || inS (down b) p) (setsE a b) := rfl
  unfold joinedR at e
  have hok := setsE_ok (a := a) (b := b)
  have HP := Lib.hid h; have HQ := Lib.hid h'
  generalize setsE a b = cc at ck e hok
  generalize unionR a b = r at e
  have CK := Lib.hid ck
  clear ck h h'
  by_cases hc : cc ≠ 0
  · rw [if_pos hc] at e
    obtain ⟨t1, t2⟩ := neq0 hc
    have E := Lib.hid e
    clear e hc hok
    go_enter Try.func18, Try.ntmps18
    go_wp2_with fail
    refine (CK.out _ (Below.refl _ _) _).mono ?_
    rintro e w1 ⟨rfl, hb⟩
    have HB1 := Lib.hid (boxB hb)
    clear hb
    go_wp2_with fail
    go_ret2
    exact spsErr_err E.out HB1.out
  · obtain rfl : cc = 0 := Classical.not_not.1 hc
    rw [if_neg (by simp)] at e
    obtain ⟨ha, hb⟩ := hok rfl
    obtain ⟨a1, a2, a3⟩ := check_set ha
    obtain ⟨b1, b2, b3⟩ := check_set hb
    have ua := up_down a1; have ub := up_down b1
    have cj := fun W (hW : Below w.heap.size w W) t => join_any 1 [(p, c, down a), (q, d, down b)] (some ⟨W.heap.size, 0, none⟩) 2 (W.alloc (.cells #[.slice p (down a).length c, .slice q (down b).length d] t)) (lsAt_two W p q c d (down a) (down b) t (by rw [ua]; exact HP.out.below hW) (by rw [ub]; exact HQ.out.below hW)) (by simp) (fun x hx => by
      rcases List.mem_cons.1 hx with rfl | hx
      · exact ⟨down_okay a1, len_bound a3 (down_len a)⟩
      · obtain rfl := List.mem_singleton.1 hx
        exact ⟨down_okay b1, len_bound b3 (down_len b)⟩) (by omega) (by omega)
    unfold SpsPost at cj
    rw [show ([(p, c, down a), (q, d, down b)] : List (Option Addr × Nat × List (Nat × Nat))).length = 2 from rfl, or_pred, down_len, down_len] at cj
    have CJ := Lib.hid cj
    clear cj
    have E := Lib.hid e
    clear e hc hok ha hb
    go_enter Try.func18, Try.ntmps18
    go_wp2_with fail
    refine (CK.out _ (Below.refl _ _) _).mono ?_
    rintro e w1 ⟨rfl, hb⟩
    have HB1 := Lib.hid (boxB hb)
    clear hb a1 a2 a3 b1 b2 b3 ua ub
    go_wp2_with fail
    refine (CJ.out _ HB1.out _).mono ?_
    rintro e w2 ⟨v, rfl, hb, ho⟩
    have HB2 := Lib.hid (HB1.out.trans ((boxB hb).mono HB1.out.size))
    have HO := Lib.hid (ownsRow_base ho (show w.heap.size ≤ _ from by have := HB1.out.size; simp; omega))
    clear hb ho
    go_wp2_with fail
    go_ret2
    exact spsErr_mk E.out HB2.out HO.out

set_option maxHeartbeats 4000000 in
set_option maxRecDepth 100000 in
theorem meet_any (a b : List (Int × Int)) (p q : Option Addr) (c d : Nat) (w : World) (h : SpsAt w p a) (h' : SpsAt w q b) :
    Calls Try.prog 20 #[.slice p a.length c, .slice q b.length d] w (SpsErr (meetR a b) w) := by
  have ck := fun W (hW : Below w.heap.size w W) t => checkAll_any [(p, c, a), (q, d, b)] (some ⟨W.heap.size, 0, none⟩) 2 (W.alloc (.cells #[.slice p a.length c, .slice q b.length d] t)) (liAt_two W p q c d a b t (h.below hW) (h'.below hW)) (by simp)
  unfold ErrPost at ck
  rw [show ([(p, c, a), (q, d, b)] : List (Option Addr × Nat × List (Int × Int))).length = 2 from rfl, allR_two] at ck
  have e : meetR a b = joinedR (fun p => inS (down a) p && inS (down b) p) (setsE a b) := rfl
  unfold joinedR at e
  have hok := setsE_ok (a := a) (b := b)
  have HP := Lib.hid h; have HQ := Lib.hid h'
  generalize setsE a b = cc at ck e hok
  generalize meetR a b = r at e
  have CK := Lib.hid ck
  clear ck h h'
  by_cases hc : cc ≠ 0
  · rw [if_pos hc] at e
    obtain ⟨t1, t2⟩ := neq0 hc
    have E := Lib.hid e
    clear e hc hok
    go_enter Try.func20, Try.ntmps20
    go_wp2_with fail
    refine (CK.out _ (Below.refl _ _) _).mono ?_
    rintro e w1 ⟨rfl, hb⟩
    have HB1 := Lib.hid (boxB hb)
    clear hb
    go_wp2_with fail
    go_ret2
    exact spsErr_err E.out HB1.out
  · obtain rfl : cc = 0 := Classical.not_not.1 hc
    rw [if_neg (by simp)] at e
    obtain ⟨ha, hb⟩ := hok rfl
    obtain ⟨a1, a2, a3⟩ := check_set ha
    obtain ⟨b1, b2, b3⟩ := check_set hb
    have ua := up_down a1; have ub := up_down b1
    have cj := fun W (hW : Below w.heap.size w W) t => join_any 2 [(p, c, down a), (q, d, down b)] (some ⟨W.heap.size, 0, none⟩) 2 (W.alloc (.cells #[.slice p (down a).length c, .slice q (down b).length d] t)) (lsAt_two W p q c d (down a) (down b) t (by rw [ua]; exact HP.out.below hW) (by rw [ub]; exact HQ.out.below hW)) (by simp) (fun x hx => by
      rcases List.mem_cons.1 hx with rfl | hx
      · exact ⟨down_okay a1, len_bound a3 (down_len a)⟩
      · obtain rfl := List.mem_singleton.1 hx
        exact ⟨down_okay b1, len_bound b3 (down_len b)⟩) (by omega) (by omega)
    unfold SpsPost at cj
    rw [show ([(p, c, down a), (q, d, down b)] : List (Option Addr × Nat × List (Nat × Nat))).length = 2 from rfl, and_pred a2 b2, down_len, down_len] at cj
    have CJ := Lib.hid cj
    clear cj
    have E := Lib.hid e
    clear e hc hok ha hb
    go_enter Try.func20, Try.ntmps20
    go_wp2_with fail
    refine (CK.out _ (Below.refl _ _) _).mono ?_
    rintro e w1 ⟨rfl, hb⟩
    have HB1 := Lib.hid (boxB hb)
    clear hb a1 a2 a3 b1 b2 b3 ua ub
    go_wp2_with fail
    refine (CJ.out _ HB1.out _).mono ?_
    rintro e w2 ⟨v, rfl, hb, ho⟩
    have HB2 := Lib.hid (HB1.out.trans ((boxB hb).mono HB1.out.size))
    have HO := Lib.hid (ownsRow_base ho (show w.heap.size ≤ _ from by have := HB1.out.size; simp; omega))
    clear hb ho
    go_wp2_with fail
    go_ret2
    exact spsErr_mk E.out HB2.out HO.out

end Go.Proofs.Ytnhbilcpdombfaa
