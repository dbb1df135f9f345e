/- spans: Of. -/
import Derived.Test.YtnhbilcpdombfaaSpJoin
namespace Go.Proofs.Ytnhbilcpdombfaa
open Go.RowKit

/-- The spans as natural numbers. -/
def down (l : List (Int × Int)) : List (Nat × Nat) := l.map fun x => (x.1.toNat, x.2.toNat)
theorem down_len (l : List (Int × Int)) : (down l).length = l.length := by simp [down]
theorem up_down {l : List (Int × Int)} (h : l.all validR = true) : up (down l) = l := by
  unfold up down
  rw [List.map_map]
  conv => rhs; rw [← List.map_id l]
  apply List.map_congr_left
  intro x hx
  have := (validR_iff x).1 (List.all_eq_true.1 h x hx)
  show (((x.1.toNat : Nat) : Int), ((x.2.toNat : Nat) : Int)) = x
  exact Prod.ext (by simp; omega) (by simp; omega)
theorem down_okay {l : List (Int × Int)} (h : l.all validR = true) : Okay (down l) := by
  intro x hx
  obtain ⟨y, hy, rfl⟩ := List.mem_map.1 hx
  have := (validR_iff y).1 (List.all_eq_true.1 h y hy)
  simp only; omega
theorem lsAt_one (W : World) (q : Option Addr) (cap : Nat) (s : List (Nat × Nat)) (t : TypeId) (h : SpsAt W q (up s)) : LsAt (W.alloc (.cells #[.slice q s.length cap] t)) (some ⟨W.heap.size, 0, none⟩) [(q, cap, s)] := by
  have hb : Below W.heap.size W (W.alloc (.cells #[.slice q s.length cap] t)) := (Below.refl _ _).alloc (Nat.le_refl _) _
  refine ⟨fun _ => ⟨W.heap.size, 0, rfl, by simp, fun j hj => ?_⟩, fun x hx => ?_⟩
  · obtain rfl : j = 0 := by simpa using hj
    exact row_cell (heap_alloc_new W _) rfl
  · obtain rfl := List.mem_singleton.1 hx
    exact h.below hb
theorem lsAt_two (W : World) (q q' : Option Addr) (cap cap' : Nat) (s s' : List (Nat × Nat)) (t : TypeId) (h : SpsAt W q (up s)) (h' : SpsAt W q' (up s')) : LsAt (W.alloc (.cells #[.slice q s.length cap, .slice q' s'.length cap'] t)) (some ⟨W.heap.size, 0, none⟩) [(q, cap, s), (q', cap', s')] := by
  have hb : Below W.heap.size W (W.alloc (.cells #[.slice q s.length cap, .slice q' s'.length cap'] t)) := (Below.refl _ _).alloc (Nat.le_refl _) _
  refine ⟨fun _ => ⟨W.heap.size, 0, rfl, by simp, fun j hj => ?_⟩, fun x hx => ?_⟩
  · match j, hj with
    | 0, _ => exact row_cell (heap_alloc_new W _) rfl
    | 1, _ => exact row_cell (heap_alloc_new W _) rfl
  · rcases List.mem_cons.1 hx with rfl | hx
    · exact h.below hb
    · obtain rfl := List.mem_singleton.1 hx
      exact h'.below hb
/-- A list of spans that a call returned, in memory of its own, and an error. -/
def SpsErr (r : List (Nat × Nat) × Int) (w : World) (e : Ending) (w' : World) : Prop := ∃ v, e = .returned (.tuple #[v, .int .i64 r.2]) ∧ Below w.heap.size w w' ∧ w'.ownsRow w.heap.size 31 2 v r.1.length (SpC r.1)
theorem spsErr_mk {r : List (Nat × Nat) × Int} {v : Value} {c : Int} {s : List (Nat × Nat)} {w w' : World} (h : r = (s, c)) (hb : Below w.heap.size w w') (ho : w'.ownsRow w.heap.size 31 2 v s.length (SpC s)) : SpsErr r w (.returned (.tuple #[v, .int .i64 c])) w' := ⟨v, by rw [h], hb, by rw [h]; exact ho⟩
theorem spsErr_err {r : List (Nat × Nat) × Int} {c : Int} {w w' : World} (h : r = ([], c)) (hb : Below w.heap.size w w') : SpsErr r w (.returned (.tuple #[.slice none 0 0, .int .i64 c])) w' := spsErr_mk h hb (World.ownsRow_nil _ _ _ _)
/-- What Of returns. -/
def ofR (l : List (Int × Int)) : List (Nat × Nat) × Int := if listR l 2000 ≠ 0 then ([], listR l 2000) else (setF (inS (down l)) 1024, 0)
theorem one_pred (s : List (Nat × Nat)) (q : Option Addr) (cap : Nat) : (fun p => decide (1 ≤ cov (flatL [(q, cap, s)] 1) p)) = inS s := by
  funext p
  have e : flatL [(q, cap, s)] 1 = s := by simp [flatL]
  rw [e, Bool.eq_iff_iff, decide_eq_true_eq, cov_pos]
set_option maxHeartbeats 2000000 in
set_option maxRecDepth 100000 in
theorem of_any (l : List (Int × Int)) (p : Option Addr) (cap : Nat) (w : World) (h : SpsAt w p l) :
    Calls Try.prog 13 #[.slice p l.length cap] w (SpsErr (ofR l) w) := by
  have cl := fun W (hW : Below w.heap.size w W) => checkList_any l p cap 2000 W (h.below hW) (by omega)
  have e : ofR l = if listR l 2000 ≠ 0 then ([], listR l 2000) else (setF (inS (down l)) 1024, 0) := rfl
  have hok := listR_ok (l := l) (most := 2000)
  have HW := Lib.hid h
  unfold ErrPost at cl
  rw [show ((2000 : Nat) : Int) = 2000 from rfl] at cl
  generalize listR l 2000 = c at cl e hok
  generalize ofR l = r at e
  have CL := Lib.hid cl
  clear cl h
  by_cases hc : c ≠ 0
  · rw [if_pos hc] at e
    obtain ⟨t1, t2⟩ := neq0 hc
    have E := Lib.hid e
    clear e hc hok
    go_enter Try.func13, Try.ntmps13
    go_wp2_with fail
    refine (CL.out _ (Below.refl _ _)).mono ?_
    rintro e w1 ⟨rfl, hb⟩
    have HB1 := Lib.hid hb
    clear hb
    go_wp2_with fail
    go_ret2
    exact spsErr_err E.out HB1.out
  · obtain rfl : c = 0 := Classical.not_not.1 hc
    rw [if_neg (by simp)] at e
    obtain ⟨hl, hv⟩ := hok rfl
    have hud := up_down hv
    have cj := fun W (hW : Below w.heap.size w W) t => join_any 1 [(p, cap, down l)] (some ⟨W.heap.size, 0, none⟩) 1 (W.alloc (.cells #[.slice p (down l).length cap] t)) (lsAt_one W p cap (down l) t (by rw [hud]; exact HW.out.below hW)) (by simp) (fun x hx => by
      obtain rfl := List.mem_singleton.1 hx
      exact ⟨down_okay hv, by rw [down_len]; omega⟩) (Nat.le_refl _) (by omega)
    unfold SpsPost at cj
    rw [show ([(p, cap, down l)] : List (Option Addr × Nat × List (Nat × Nat))).length = 1 from rfl, one_pred, down_len, show ((1 : Nat) : Int) = 1 from rfl] at cj
    have E := Lib.hid e; have CJ := Lib.hid cj
    clear e hc hok hv hud cj
    go_enter Try.func13, Try.ntmps13
    go_wp2_with fail
    refine (CL.out _ (Below.refl _ _)).mono ?_
    rintro e w1 ⟨rfl, hb⟩
    have HB1 := Lib.hid hb
    clear hb
    go_wp2_with fail
    refine (CJ.out _ HB1.out _).mono ?_
    rintro e w2 ⟨v, rfl, hb, ho⟩
    have HB2 := Lib.hid (HB1.out.trans ((boxB hb).mono HB1.out.size))
    have HO := Lib.hid (ownsRow_base ho (show w.heap.size ≤ _ from by have := HB1.out.size; simp; omega))
    clear hb ho
    go_wp2_with fail
    go_ret2
    exact spsErr_mk E.out HB2.out HO.out
end Go.Proofs.Ytnhbilcpdombfaa
