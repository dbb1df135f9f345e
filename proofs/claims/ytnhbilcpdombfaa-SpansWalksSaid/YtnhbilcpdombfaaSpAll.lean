/- spans: checkAll, checkWith. -/
import Derived.Test.YtnhbilcpdombfaaSpRest
namespace Go.Proofs.Ytnhbilcpdombfaa
open Go.RowKit

/-- A list of slices of whatever spans. -/
structure LiAt (W : World) (p : Option Addr) (Ls : List (Option Addr × Nat × List (Int × Int))) : Prop where
  at_ : 0 < Ls.length → ∃ g off, p = some ⟨g, off, none⟩ ∧ g < W.heap.size ∧ ∀ j (h : j < Ls.length), W.cell? ⟨g, off + j, none⟩ = some (.slice (Ls[j]'h).1 (Ls[j]'h).2.2.length (Ls[j]'h).2.1)
  each : ∀ x ∈ Ls, SpsAt W x.1 x.2.2
theorem liAt_two (W : World) (q q' : Option Addr) (cap cap' : Nat) (s s' : List (Int × Int)) (t : TypeId) (h : SpsAt W q s) (h' : SpsAt W q' s') : LiAt (W.alloc (.cells #[.slice q s.length cap, .slice q' s'.length cap'] t)) (some ⟨W.heap.size, 0, none⟩) [(q, cap, s), (q', cap', s')] := by
  have hb : Below W.heap.size W (W.alloc (.cells #[.slice q s.length cap, .slice q' s'.length cap'] t)) := (Below.refl _ _).alloc (Nat.le_refl _) _
  refine ⟨fun _ => ⟨W.heap.size, 0, rfl, by simp, fun j hj => ?_⟩, fun x hx => ?_⟩
  · match j, hj with
    | 0, _ => exact row_cell (heap_alloc_new W _) rfl
    | 1, _ => exact row_cell (heap_alloc_new W _) rfl
  · rcases List.mem_cons.1 hx with rfl | hx
    · exact h.below hb
    · obtain rfl := List.mem_singleton.1 hx
      exact h'.below hb
def allR : List (Option Addr × Nat × List (Int × Int)) → Int
  | [] => 0
  | x :: L => if checkR x.2.2 ≠ 0 then checkR x.2.2 else allR L
theorem allR_drop (Ls : List (Option Addr × Nat × List (Int × Int))) (j : Nat) (h : j < Ls.length) : allR (Ls.drop j) = if checkR (Ls[j]'h).2.2 ≠ 0 then checkR (Ls[j]'h).2.2 else allR (Ls.drop (j + 1)) := by
  rw [List.drop_eq_getElem_cons h]; rfl
set_option maxHeartbeats 1000000 in
set_option maxRecDepth 100000 in
theorem checkAll_any (Ls : List (Option Addr × Nat × List (Int × Int))) (p : Option Addr) (cap : Nat) (w : World) (h : LiAt w p Ls) (hn : Ls.length ≤ 2) :
    Calls Try.prog 53 #[.slice p Ls.length cap] w (ErrPost (allR Ls) w) := by
  have HW := Lib.hid h
  have n2 : (Ls.length : Int) ≤ 2 := by omega
  clear h
  go_enter Try.func53, Try.ntmps53
  go_wp2_with fail
  go_loopg [8] Ls.length (fun n1 i wr => ∃ j : Nat, j + n1 = Ls.length ∧ i = .int .i64 j ∧ Below w.heap.size w wr ∧ allR Ls = allR (Ls.drop j))
  case atStart => exact ⟨0, by omega, by go_num, Below.refl _ _, by simp⟩
  case round =>
    obtain ⟨j, hjn, rfl, hbw, hall⟩ := hrel
    have HB := Lib.hid hbw
    have j0 : (0 : Int) ≤ j := by omega
    by_cases hlt : j < Ls.length
    · obtain ⟨n', rfl⟩ : ∃ n', gk = n' + 1 := ⟨gk - 1, by omega⟩
      obtain ⟨g, off, rfl, hg, hc⟩ := HW.out.at_ (by omega)
      have c0 := (hbw.cell (p := ⟨g, off + j, none⟩) hg).trans (hc j hlt)
      have hs := (HW.out.each _ (List.getElem_mem hlt)).below hbw
      have hd := allR_drop Ls j hlt
      have ck := check_any _ _ (Ls[j]'hlt).2.1 wr hs
      unfold ErrPost at ck
      generalize checkR (Ls[j]'hlt).2.2 = c at ck hd
      generalize (Ls[j]'hlt).2.2.length = n at c0 ck
      generalize (Ls[j]'hlt).1 = q at c0 ck
      generalize (Ls[j]'hlt).2.1 = cl at c0 ck
      have CK := Lib.hid ck
      have i1 : (j : Int) < Ls.length := by omega
      clear hc hs ck hbw
      by_cases hcz : c ≠ 0
      · rw [if_pos hcz] at hd
        obtain ⟨t1, t2⟩ := neq0 hcz
        have HF := Lib.hid (hall.trans hd)
        clear hd hall hcz
        go_wp2_with (go_at_call 15; refine CK.out.mono ?_; rintro e w' ⟨rfl, hb⟩; have HB2 := Lib.hid (HB.out.trans (hb.mono HB.out.size)); clear hb)
        go_ret
        exact errPost_mk HF.out HB2.out
      · obtain rfl : c = 0 := Classical.not_not.1 hcz
        rw [if_neg (by simp)] at hd
        have HF := Lib.hid (hall.trans hd)
        clear hd hall hcz
        go_wp2_with (go_at_call 15; refine CK.out.mono ?_; rintro e w' ⟨rfl, hb⟩; have HB2 := Lib.hid (HB.out.trans (hb.mono HB.out.size)); clear hb)
        go_roundg n'
        case measure => omega
        case rel => exact ⟨j + 1, by omega, by go_num, HB2.out, HF.out⟩
    · obtain rfl : j = Ls.length := by omega
      rw [List.drop_length] at hall
      have HF := Lib.hid (hall.trans rfl)
      have i1 : ¬ ((Ls.length : Nat) : Int) < Ls.length := by omega
      clear hall hbw
      go_wp2_with fail
      go_ret
      exact errPost_mk HF.out HB.out
/-- What is wrong with a set, or with a span that is held against it. -/
def withR (l : List (Int × Int)) (x : Int × Int) : Int := if checkR l ≠ 0 then checkR l else if validR x then 0 else 7
set_option maxHeartbeats 1000000 in
set_option maxRecDepth 100000 in
theorem checkWith_any (l : List (Int × Int)) (p : Option Addr) (cap : Nat) (a b : Int) (w : World) (h : SpsAt w p l) (hf : Fits (a, b)) :
    Calls Try.prog 56 #[.slice p l.length cap, .agg #[.int .i64 a, .int .i64 b]] w (ErrPost (withR l (a, b)) w) := by
  have ck := fun W (hW : Below w.heap.size w W) => check_any l p cap W (h.below hW)
  have cv := fun W => valid_any a b W hf
  have e : withR l (a, b) = if checkR l ≠ 0 then checkR l else if validR (a, b) then 0 else 7 := rfl
  unfold ErrPost at ck
  unfold BoolPost at cv
  generalize checkR l = c at ck e
  generalize validR (a, b) = v at cv e
  generalize withR l (a, b) = r at e
  have CK := Lib.hid ck; have CV := Lib.hid cv
  have RX := Lib.hid (fun (W : World) (hb : Below (w.alloc (.cells #[.int .i64 a, .int .i64 b] 31)).heap.size (w.alloc (.cells #[.int .i64 a, .int .i64 b] 31)) W) => (show W.cell? ⟨w.heap.size, 0, none⟩ = some (.int .i64 a) ∧ W.cell? ⟨w.heap.size, 1, none⟩ = some (.int .i64 b) from by
    have hx := (hb.block w.heap.size (by simp)).trans (heap_alloc_new w _)
    exact ⟨row_cell hx rfl, row_cell hx rfl⟩))
  clear ck cv h hf
  by_cases hc : c ≠ 0
  · rw [if_pos hc] at e
    obtain ⟨t1, t2⟩ := neq0 hc
    have E := Lib.hid e
    clear e hc
    go_enter Try.func56, Try.ntmps56
    go_wp2_with fail
    refine (CK.out _ ((Below.refl _ _).alloc (Nat.le_refl _) _)).mono ?_
    rintro e w1 ⟨rfl, hb⟩
    have HB1 := Lib.hid (boxB hb)
    clear hb
    go_wp2_with fail
    go_ret
    exact errPost_mk E.out HB1.out
  · obtain rfl : c = 0 := Classical.not_not.1 hc
    rw [if_neg (by simp)] at e
    clear hc
    cases v
    all_goals
      have E := Lib.hid e
      clear e
      go_enter Try.func56, Try.ntmps56
      go_wp2_with fail
      refine (CK.out _ ((Below.refl _ _).alloc (Nat.le_refl _) _)).mono ?_
      rintro e w1 ⟨rfl, hb⟩
      have HB1 := Lib.hid (boxB hb)
      obtain ⟨c0, c1⟩ := RX.out _ hb
      clear hb
      go_wp2_with fail
      refine (CV.out _).mono ?_
      rintro e w2 ⟨rfl, hb⟩
      have HB2 := Lib.hid (HB1.out.trans (hb.mono HB1.out.size))
      clear hb
      go_wp2_with fail
      go_ret
      exact errPost_mk E.out HB2.out
end Go.Proofs.Ytnhbilcpdombfaa
