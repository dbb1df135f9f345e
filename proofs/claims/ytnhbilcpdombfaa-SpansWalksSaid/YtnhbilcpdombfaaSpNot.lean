/- spans: Not. -/
import Derived.Test.YtnhbilcpdombfaaSpMinus
namespace Go.Proofs.Ytnhbilcpdombfaa
open Go.RowKit

theorem withR_ok {l : List (Int × Int)} {x : Int × Int} (h : withR l x = 0) : checkR l = 0 ∧ validR x = true := by
  unfold withR at h
  by_cases h1 : checkR l ≠ 0
  · rw [if_pos h1] at h; exact absurd h h1
  · rw [if_neg h1] at h
    refine ⟨Classical.not_not.1 h1, ?_⟩
    cases hv : validR x with
    | true => rfl
    | false => rw [hv] at h; cases h
theorem one_set {x : Int × Int} (h : validR x = true) : IsSet 1024 (down [x]) := by
  have := (validR_iff x).1 h
  refine ⟨fun y hy => ?_, by simp [down]⟩
  obtain rfl : y = (x.1.toNat, x.2.toNat) := by simpa [down] using hy
  simp only; omega
theorem spsAt_one (W : World) (a b : Int) (t : TypeId) (h : Fits (a, b)) : SpsAt (W.alloc (.cells #[.int .i64 a, .int .i64 b] t)) (some ⟨W.heap.size, 0, none⟩) [(a, b)] := by
  refine ⟨by unfold maxLen; simp, fun x hx => by obtain rfl := List.mem_singleton.1 hx; exact h, fun _ => ⟨W.heap.size, 0, rfl, by simp, fun j hj => ?_⟩⟩
  obtain rfl : j = 0 := by simpa using hj
  exact ⟨row_cell (heap_alloc_new W _) rfl, row_cell (heap_alloc_new W _) rfl⟩
theorem keep2 {W W' : World} {a b : Addr} {X Y : Value} (hb : Below W.heap.size W W') (hS : W.cell? a = some X ∧ W.cell? b = some Y) : W'.cell? a = some X ∧ W'.cell? b = some Y := by
  have k : ∀ {q v}, W.cell? q = some v → W'.cell? q = some v := fun h => (hb.cell (World.block_lt_of_cell? W _ h)).trans h
  exact ⟨k hS.1, k hS.2⟩
set_option maxHeartbeats 4000000 in
set_option maxRecDepth 100000 in
theorem not_any (l : List (Int × Int)) (p : Option Addr) (c : Nat) (a b : Int) (w : World) (h : SpsAt w p l) (hf : Fits (a, b)) :
    Calls Try.prog 24 #[.slice p l.length c, .agg #[.int .i64 a, .int .i64 b]] w (SpsErr (notR l (a, b)) w) := by
  have ck := fun W (hW : Below w.heap.size w W) => checkWith_any l p c a b W (h.below hW) hf
  unfold ErrPost at ck
  have e : notR l (a, b) = joinedR (fun p => inS (down [(a, b)]) p && !inS (down l) p) (withR l (a, b)) := rfl
  unfold joinedR at e
  have hok := withR_ok (l := l) (x := (a, b))
  have HQ := Lib.hid h
  generalize withR l (a, b) = cc at ck e hok
  generalize notR l (a, b) = r at e
  have CK := Lib.hid ck
  have RX := Lib.hid (fun (W : World) (hb : Below (w.alloc (.cells #[.int .i64 a, .int .i64 b] 31)).heap.size (w.alloc (.cells #[.int .i64 a, .int .i64 b] 31)) W) => (show W.cell? ⟨w.heap.size, 0, none⟩ = some (.int .i64 a) ∧ W.cell? ⟨w.heap.size, 1, none⟩ = some (.int .i64 b) from by
    have hx := (hb.block w.heap.size (by simp)).trans (heap_alloc_new w _)
    exact ⟨row_cell hx rfl, row_cell hx rfl⟩))
  clear ck h
  by_cases hc : cc ≠ 0
  · rw [if_pos hc] at e
    obtain ⟨t1, t2⟩ := neq0 hc
    have E := Lib.hid e
    clear e hc hok
    go_enter Try.func24, Try.ntmps24
    go_wp2_with fail
    refine (CK.out _ ((Below.refl _ _).alloc (Nat.le_refl _) _)).mono ?_
    rintro e w1 ⟨rfl, hb⟩
    have HB1 := Lib.hid (boxB hb)
    clear hb
    go_wp2_with fail
    go_ret2
    exact spsErr_err E.out HB1.out
  · obtain rfl : cc = 0 := Classical.not_not.1 hc
    rw [if_neg (by simp)] at e
    obtain ⟨hl, hv⟩ := hok rfl
    obtain ⟨b1, b2, b3⟩ := check_set hl
    have a1 : ([(a, b)] : List (Int × Int)).all validR = true := by simpa using hv
    have a2 := one_set hv
    have ua := up_down a1; have ub := up_down b1
    obtain ⟨r1, _, r3⟩ := restR_ok b2
    rw [down_len] at r3
    have cr := fun W (hW : Below w.heap.size w W) => rest_any (down l) p c W (by rw [ub]; exact HQ.out.below hW) b2 (by rw [down_len]; omega)
    unfold SpsPost at cr
    rw [down_len] at cr
    have hor : Okay (restR (down l)) := fun x hx => r1.run x hx
    have hpr := minus_set a2 b2
    have cj : ∀ W q (hs : SpsAt W q [(a, b)]) t q' c' (hr : SpsAt W q' (up (restR (down l)))), _ := fun W q hs t q' c' hr => by
      have := join_any 2 [(q, 1, down [(a, b)]), (q', c', restR (down l))] (some ⟨W.heap.size, 0, none⟩) 2 (W.alloc (.cells #[.slice q (down [(a, b)]).length 1, .slice q' (restR (down l)).length c'] t)) (lsAt_two W q q' 1 c' (down [(a, b)]) (restR (down l)) t (by rw [ua]; exact hs) hr) (by simp) (fun x hx => by
        rcases List.mem_cons.1 hx with rfl | hx
        · exact ⟨down_okay a1, by show (down [(a, b)]).length ≤ 2100; simp [down]⟩
        · obtain rfl := List.mem_singleton.1 hx
          exact ⟨hor, by show (restR (down l)).length ≤ 2100; omega⟩) (by omega) (by omega)
      rw [show ([(q, 1, down [(a, b)]), (q', c', restR (down l))] : List (Option Addr × Nat × List (Nat × Nat))).length = 2 from rfl, hpr, down_len, show ((2 : Nat) : Int) = 2 from rfl, show ([(a, b)] : List (Int × Int)).length = 1 from rfl] at this
      unfold SpsPost at this
      exact this
    have CJ := Lib.hid cj; have CR := Lib.hid cr; have HOR := Lib.hid hor
    have hrl : (restR (down l)).length ≤ 100000 := by omega
    have HS1 := Lib.hid (fun W t => spsAt_one W a b t hf)
    have E := Lib.hid e
    clear e hc hok hl hv cj cr hpr hor
    generalize restR (down l) = R at CJ CR HOR hrl r1 r3
    go_enter Try.func24, Try.ntmps24
    go_wp2_with fail
    refine (CK.out _ ((Below.refl _ _).alloc (Nat.le_refl _) _)).mono ?_
    rintro e w1 ⟨rfl, hb⟩
    have HB1 := Lib.hid (boxB hb)
    obtain ⟨x0, x1⟩ := RX.out _ hb
    clear hb a1 a2 b1 b2 b3 ua ub r1 r3
    go_wp2_with fail
    have hs0 : w1.drew.cell? ⟨w.heap.size, 0, none⟩ = some (.int .i64 a) ∧ w1.drew.cell? ⟨w.heap.size, 1, none⟩ = some (.int .i64 b) := ⟨x0, x1⟩
    have hbd : Below w.heap.size w w1.drew := HB1.out.drew
    have hba : Below w.heap.size w (w1.alloc (.cells #[.int .i64 a, .int .i64 b] 31)).drew := (HB1.out.alloc HB1.out.size _).drew
    have CRA := Lib.hid (CR.out (w1.alloc (.cells #[.int .i64 a, .int .i64 b] 31)).drew hba)
    have CRB := Lib.hid (CR.out w1.drew hbd)
    have HBD := Lib.hid hbd; have HBA := Lib.hid hba
    have HSA := Lib.hid ((HS1.out w1 31).below (drewOne _ _))
    clear hbd hba CR
    go_region_held3 (fun W => W.cell? ⟨w.heap.size, 0, none⟩ = some (.int .i64 a) ∧ W.cell? ⟨w.heap.size, 1, none⟩ = some (.int .i64 b)) (first | with_reducible exact hs0 | with_reducible exact keep2 hby (by assumption) | with_reducible exact keep2 hbz (by assumption) | with_reducible exact keep2 ((Below.refl _ _).alloc (Nat.le_refl _) _) (by assumption)) (first
      | (go_at_call 55; first
          | (with_reducible refine Calls.mono CRA.out ?_; rintro e wz ⟨vz, rfl, hbz, hoz⟩; obtain ⟨qr, cr, rfl, hsr⟩ := own_sps hoz HOR.out hrl; have HJ := Lib.hid (fun t => CJ.out wz _ (HSA.out.below hbz) t _ cr hsr); have HBJ := Lib.hid (below_next HBA.out hbz))
          | (with_reducible refine Calls.mono CRB.out ?_; rintro e wz ⟨vz, rfl, hbz, hoz⟩; obtain ⟨qr, cr, rfl, hsr⟩ := own_sps hoz HOR.out hrl; have hj := fun t => CJ.out (wz.alloc (.cells #[.int .i64 a, .int .i64 b] 31)) _ (HS1.out wz 31) t _ cr (hsr.below ((Below.refl _ _).alloc (Nat.le_refl _) _)); rw [show (wz.alloc (.cells #[.int .i64 a, .int .i64 b] 31)).heap.size = wz.heap.size + 1 by simp] at hj; have HJ := Lib.hid hj; clear hj; have HBJ := Lib.hid ((below_next HBD.out hbz).alloc (below_next HBD.out hbz).size (.cells #[.int .i64 a, .int .i64 b] 31))))
      | (go_at_call 48; with_reducible refine Calls.mono (HJ.out _) ?_; rintro e wy ⟨vy, rfl, hby, hoy⟩))
    all_goals
      go_wp2_with fail
      go_ret2
      exact spsErr_mk E.out (below_next (HBJ.out.alloc HBJ.out.size _) hby) (ownsRow_base hoy (by have := HBJ.out.size; simp at this ⊢; omega))
end Go.Proofs.Ytnhbilcpdombfaa
