/- spans: some, Has, Meets at any input. -/
import Derived.Test.YtnhbilcpdombfaaSpHas
namespace Go.Proofs.Ytnhbilcpdombfaa
open Go.RowKit

def hitHas (x y : Int × Int) : Bool := decide (y.1 ≤ x.1) && decide (x.1 + x.2 ≤ y.1 + y.2)
def hasR (l : List (Int × Int)) (x : Int × Int) : Bool × Int := if withR l x ≠ 0 then (false, withR l x) else (l.any (hitHas x), 0)
def hitMeets (x y : Int × Int) : Bool := decide (y.1 < x.1 + x.2) && decide (x.1 < y.1 + y.2)
def meetsR (l : List (Int × Int)) (x : Int × Int) : Bool × Int := if withR l x ≠ 0 then (false, withR l x) else (l.any (hitMeets x), 0)
def BoolErr (r : Bool × Int) (w : World) (e : Ending) (w' : World) : Prop := e = .returned (.tuple #[.bool r.1, .int .i64 r.2]) ∧ Below w.heap.size w w'
theorem boolErr_mk {r : Bool × Int} {a : Bool} {c : Int} {w w' : World} (h : r = (a, c)) (hb : Below w.heap.size w w') : BoolErr r w (.returned (.tuple #[.bool a, .int .i64 c])) w' := ⟨by rw [h], hb⟩
theorem take_any_succ {P : Int × Int → Bool} (l : List (Int × Int)) (k : Nat) (h : k < l.length) : (l.take (k + 1)).any P = ((l.take k).any P || P (l[k]'h)) := by
  rw [List.take_add_one, List.getElem?_eq_getElem h, List.any_append]; simp
theorem any_yes {P : Int × Int → Bool} {l : List (Int × Int)} {k : Nat} (h : k < l.length) (hp : P (l[k]'h) = true) : l.any P = true := List.any_eq_true.2 ⟨_, List.getElem_mem h, hp⟩
set_option maxHeartbeats 2000000 in
set_option maxRecDepth 100000 in
theorem some_has (l : List (Int × Int)) (p : Option Addr) (cap : Nat) (a b : Int) (Bx : Nat) (w : World) (h : SpsAt w p l) (hf : Fits (a, b)) (hx : XAt w Bx a b) :
    Calls Try.prog 58 #[.slice p l.length cap, .agg #[.int .i64 a, .int .i64 b], .func (.func 59) #[] #[.pointer (some ⟨Bx, 0, none⟩)]] w (BoolErr (hasR l (a, b)) w) := by
  have ck := fun W (hW : Below w.heap.size w W) => checkWith_any l p cap a b W (h.below hW) hf
  have e : hasR l (a, b) = if withR l (a, b) ≠ 0 then (false, withR l (a, b)) else (l.any (hitHas (a, b)), 0) := rfl
  have hok := withR_ok (l := l) (x := (a, b))
  have HP := Lib.hid h; have HX := Lib.hid hx
  unfold ErrPost at ck
  generalize withR l (a, b) = c at ck e hok
  generalize hasR l (a, b) = r at e
  have CK := Lib.hid ck
  clear ck h hx
  by_cases hc : c ≠ 0
  · rw [if_pos hc] at e
    obtain ⟨t1, t2⟩ := neq0 hc
    have E := Lib.hid e
    clear e hc hok
    go_enter Try.func58, Try.ntmps58
    go_wp2_with fail
    refine (CK.out _ ((Below.refl _ _).alloc (Nat.le_refl _) _)).mono ?_
    rintro e w1 ⟨rfl, hb⟩
    have HB1 := Lib.hid (boxB hb)
    clear hb
    go_wp2_with fail
    go_ret2
    exact boolErr_mk E.out HB1.out
  · obtain rfl : c = 0 := Classical.not_not.1 hc
    rw [if_neg hc] at e
    obtain ⟨hc1, hv⟩ := hok rfl
    obtain ⟨hva, hset, hl5⟩ := check_set hc1
    have hvv := (validR_iff (a, b)).1 hv
    simp only at hvv
    have E := Lib.hid e; have HV := Lib.hid (List.all_eq_true.1 hva)
    have l4 : (l.length : Int) ≤ 512 := by omega
    have hx1 : -4096 ≤ a + b ∧ a + b ≤ 4096 := by omega
    have HXX := Lib.hid hx1
    clear e hc hok hc1 hv hva hset hvv hx1
    go_enter Try.func58, Try.ntmps58
    go_wp2_with fail
    refine (CK.out _ ((Below.refl _ _).alloc (Nat.le_refl _) _)).mono ?_
    rintro e w1 ⟨rfl, hb⟩
    have HB1 := Lib.hid (boxB hb)
    clear hb
    go_wp2_with fail
    go_loopg [19] l.length (fun n1 i W => ∃ k : Nat, k + n1 = l.length ∧ i = .int .i64 k ∧ Below w.heap.size w W ∧ (l.take k).any (hitHas (a, b)) = false)
    case atStart => exact ⟨0, by omega, by go_num, HB1.out, by simp⟩
    case round =>
      clear HB1
      obtain ⟨k, hkn, rfl, hbw, hall⟩ := hrel
      have HB := Lib.hid hbw; have HALL := Lib.hid hall
      clear hbw hall
      have k0 : (0 : Int) ≤ k := by omega
      by_cases hlt : k < l.length
      · obtain ⟨n', rfl⟩ : ∃ n', gk = n' + 1 := ⟨gk - 1, by omega⟩
        obtain ⟨g, off, rfl, hg, hc⟩ := (HP.out.below HB.out).at_ (by omega)
        obtain ⟨c0, c1⟩ := hc k hlt
        have hvk := (validR_iff _).1 (HV.out _ (List.getElem_mem hlt))
        have hts := take_any_succ (P := hitHas (a, b)) l k hlt
        have hyes := fun h => any_yes (P := hitHas (a, b)) hlt h
        have hxy : l[k]'hlt = ((l[k]'hlt).1, (l[k]'hlt).2) := rfl
        rw [hxy] at hts hyes hvk
        generalize (l[k]'hlt).1 = x at c0 hvk hts hyes
        generalize (l[k]'hlt).2 = y at c1 hvk hts hyes
        rw [HALL.out, Bool.false_or] at hts
        have hxb := (HX.out.below HB.out).below ((Below.refl wr.heap.size wr).alloc (Nat.le_refl _) (.cells #[.int .i64 x, .int .i64 y] 31))
        have cc := has1_any x y a b Bx (wr.alloc (.cells #[.int .i64 x, .int .i64 y] 31)) hxb (by omega) HXX.out
        have hh : (decide (x ≤ a) && decide (a + b ≤ x + y)) = hitHas (a, b) (x, y) := rfl
        rw [hh] at cc
        unfold BoolPost at cc
        have i2 : (k : Int) < l.length := by omega
        clear hc hxy hvk hxb hh
        cases hit : hitHas (a, b) (x, y)
        · rw [hit] at cc hts
          have CC := Lib.hid cc; have HTS := Lib.hid hts
          clear cc hts hyes hit
          go_wp2_with fail
          refine CC.out.mono ?_
          rintro e w2 ⟨rfl, hb⟩
          have HB2 := Lib.hid (below_next HB.out (boxB hb))
          clear hb
          go_wp2_with fail
          go_roundg n'
          case measure => omega
          case rel => exact ⟨k + 1, by omega, by go_num, HB2.out, HTS.out⟩
        · have HF := Lib.hid (show r = (true, 0) by rw [E.out, hyes hit])
          rw [hit] at cc
          have CC := Lib.hid cc
          clear cc hts hyes hit
          go_wp2_with fail
          refine CC.out.mono ?_
          rintro e w2 ⟨rfl, hb⟩
          have HB2 := Lib.hid (below_next HB.out (boxB hb))
          clear hb
          go_wp2_with fail
          go_ret2
          exact boolErr_mk HF.out HB2.out
      · obtain rfl : k = l.length := by omega
        have hn := HALL.out
        rw [List.take_length] at hn
        have HF := Lib.hid (show r = (false, 0) by rw [E.out, hn])
        have i2 : ¬ ((l.length : Nat) : Int) < l.length := by omega
        clear hn
        go_wp2_with fail
        go_ret2
        exact boolErr_mk HF.out HB.out
set_option maxRecDepth 100000 in
theorem has_any (l : List (Int × Int)) (p : Option Addr) (cap : Nat) (a b : Int) (w : World) (h : SpsAt w p l) (hf : Fits (a, b)) :
    Calls Try.prog 26 #[.slice p l.length cap, .agg #[.int .i64 a, .int .i64 b]] w (BoolErr (hasR l (a, b)) w) := by
  have hbe : Below w.heap.size w (w.alloc (.cells #[.int .i64 a, .int .i64 b] 31)) := (Below.refl _ _).alloc (Nat.le_refl _) _
  have C := Lib.hid (some_has l p cap a b w.heap.size (w.alloc (.cells #[.int .i64 a, .int .i64 b] 31)) (h.below hbe) hf ⟨row_cell (heap_alloc_new w _) rfl, row_cell (heap_alloc_new w _) rfl⟩)
  clear h hbe
  go_enter Try.func26, Try.ntmps26
  go_wp2_with fail
  refine C.out.mono ?_
  rintro e w1 ⟨rfl, hb⟩
  have HB := Lib.hid (boxB hb)
  clear hb
  go_wp2_with fail
  go_ret2
  exact ⟨rfl, HB.out⟩
set_option maxHeartbeats 2000000 in
set_option maxRecDepth 100000 in
theorem some_meets (l : List (Int × Int)) (p : Option Addr) (cap : Nat) (a b : Int) (Bx : Nat) (w : World) (h : SpsAt w p l) (hf : Fits (a, b)) (hx : XAt w Bx a b) :
    Calls Try.prog 58 #[.slice p l.length cap, .agg #[.int .i64 a, .int .i64 b], .func (.func 61) #[] #[.pointer (some ⟨Bx, 0, none⟩)]] w (BoolErr (meetsR l (a, b)) w) := by
  have ck := fun W (hW : Below w.heap.size w W) => checkWith_any l p cap a b W (h.below hW) hf
  have e : meetsR l (a, b) = if withR l (a, b) ≠ 0 then (false, withR l (a, b)) else (l.any (hitMeets (a, b)), 0) := rfl
  have hok := withR_ok (l := l) (x := (a, b))
  have HP := Lib.hid h; have HX := Lib.hid hx
  unfold ErrPost at ck
  generalize withR l (a, b) = c at ck e hok
  generalize meetsR l (a, b) = r at e
  have CK := Lib.hid ck
  clear ck h hx
  by_cases hc : c ≠ 0
  · rw [if_pos hc] at e
    obtain ⟨t1, t2⟩ := neq0 hc
    have E := Lib.hid e
    clear e hc hok
    go_enter Try.func58, Try.ntmps58
    go_wp2_with fail
    refine (CK.out _ ((Below.refl _ _).alloc (Nat.le_refl _) _)).mono ?_
    rintro e w1 ⟨rfl, hb⟩
    have HB1 := Lib.hid (boxB hb)
    clear hb
    go_wp2_with fail
    go_ret2
    exact boolErr_mk E.out HB1.out
  · obtain rfl : c = 0 := Classical.not_not.1 hc
    rw [if_neg hc] at e
    obtain ⟨hc1, hv⟩ := hok rfl
    obtain ⟨hva, hset, hl5⟩ := check_set hc1
    have hvv := (validR_iff (a, b)).1 hv
    simp only at hvv
    have E := Lib.hid e; have HV := Lib.hid (List.all_eq_true.1 hva)
    have l4 : (l.length : Int) ≤ 512 := by omega
    have hx1 : -4096 ≤ a + b ∧ a + b ≤ 4096 := by omega
    have HXX := Lib.hid hx1
    clear e hc hok hc1 hv hva hset hvv hx1
    go_enter Try.func58, Try.ntmps58
    go_wp2_with fail
    refine (CK.out _ ((Below.refl _ _).alloc (Nat.le_refl _) _)).mono ?_
    rintro e w1 ⟨rfl, hb⟩
    have HB1 := Lib.hid (boxB hb)
    clear hb
    go_wp2_with fail
    go_loopg [19] l.length (fun n1 i W => ∃ k : Nat, k + n1 = l.length ∧ i = .int .i64 k ∧ Below w.heap.size w W ∧ (l.take k).any (hitMeets (a, b)) = false)
    case atStart => exact ⟨0, by omega, by go_num, HB1.out, by simp⟩
    case round =>
      clear HB1
      obtain ⟨k, hkn, rfl, hbw, hall⟩ := hrel
      have HB := Lib.hid hbw; have HALL := Lib.hid hall
      clear hbw hall
      have k0 : (0 : Int) ≤ k := by omega
      by_cases hlt : k < l.length
      · obtain ⟨n', rfl⟩ : ∃ n', gk = n' + 1 := ⟨gk - 1, by omega⟩
        obtain ⟨g, off, rfl, hg, hc⟩ := (HP.out.below HB.out).at_ (by omega)
        obtain ⟨c0, c1⟩ := hc k hlt
        have hvk := (validR_iff _).1 (HV.out _ (List.getElem_mem hlt))
        have hts := take_any_succ (P := hitMeets (a, b)) l k hlt
        have hyes := fun h => any_yes (P := hitMeets (a, b)) hlt h
        have hxy : l[k]'hlt = ((l[k]'hlt).1, (l[k]'hlt).2) := rfl
        rw [hxy] at hts hyes hvk
        generalize (l[k]'hlt).1 = x at c0 hvk hts hyes
        generalize (l[k]'hlt).2 = y at c1 hvk hts hyes
        rw [HALL.out, Bool.false_or] at hts
        have hxb := (HX.out.below HB.out).below ((Below.refl wr.heap.size wr).alloc (Nat.le_refl _) (.cells #[.int .i64 x, .int .i64 y] 31))
        have cc := meets1_any x y a b Bx (wr.alloc (.cells #[.int .i64 x, .int .i64 y] 31)) hxb (by omega) HXX.out
        have hh : (decide (x < a + b) && decide (a < x + y)) = hitMeets (a, b) (x, y) := rfl
        rw [hh] at cc
        unfold BoolPost at cc
        have i2 : (k : Int) < l.length := by omega
        clear hc hxy hvk hxb hh
        cases hit : hitMeets (a, b) (x, y)
        · rw [hit] at cc hts
          have CC := Lib.hid cc; have HTS := Lib.hid hts
          clear cc hts hyes hit
          go_wp2_with fail
          refine CC.out.mono ?_
          rintro e w2 ⟨rfl, hb⟩
          have HB2 := Lib.hid (below_next HB.out (boxB hb))
          clear hb
          go_wp2_with fail
          go_roundg n'
          case measure => omega
          case rel => exact ⟨k + 1, by omega, by go_num, HB2.out, HTS.out⟩
        · have HF := Lib.hid (show r = (true, 0) by rw [E.out, hyes hit])
          rw [hit] at cc
          have CC := Lib.hid cc
          clear cc hts hyes hit
          go_wp2_with fail
          refine CC.out.mono ?_
          rintro e w2 ⟨rfl, hb⟩
          have HB2 := Lib.hid (below_next HB.out (boxB hb))
          clear hb
          go_wp2_with fail
          go_ret2
          exact boolErr_mk HF.out HB2.out
      · obtain rfl : k = l.length := by omega
        have hn := HALL.out
        rw [List.take_length] at hn
        have HF := Lib.hid (show r = (false, 0) by rw [E.out, hn])
        have i2 : ¬ ((l.length : Nat) : Int) < l.length := by omega
        clear hn
        go_wp2_with fail
        go_ret2
        exact boolErr_mk HF.out HB.out
set_option maxRecDepth 100000 in
theorem meets_any (l : List (Int × Int)) (p : Option Addr) (cap : Nat) (a b : Int) (w : World) (h : SpsAt w p l) (hf : Fits (a, b)) :
    Calls Try.prog 28 #[.slice p l.length cap, .agg #[.int .i64 a, .int .i64 b]] w (BoolErr (meetsR l (a, b)) w) := by
  have hbe : Below w.heap.size w (w.alloc (.cells #[.int .i64 a, .int .i64 b] 31)) := (Below.refl _ _).alloc (Nat.le_refl _) _
  have C := Lib.hid (some_meets l p cap a b w.heap.size (w.alloc (.cells #[.int .i64 a, .int .i64 b] 31)) (h.below hbe) hf ⟨row_cell (heap_alloc_new w _) rfl, row_cell (heap_alloc_new w _) rfl⟩)
  clear h hbe
  go_enter Try.func28, Try.ntmps28
  go_wp2_with fail
  refine C.out.mono ?_
  rintro e w1 ⟨rfl, hb⟩
  have HB := Lib.hid (boxB hb)
  clear hb
  go_wp2_with fail
  go_ret2
  exact ⟨rfl, HB.out⟩
end Go.Proofs.Ytnhbilcpdombfaa
