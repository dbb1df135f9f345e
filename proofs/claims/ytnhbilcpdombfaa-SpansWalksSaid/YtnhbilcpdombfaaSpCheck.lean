/- spans: checkList, Check. -/
import Derived.Test.YtnhbilcpdombfaaSpBase
import Derived.Deep.DeepCutAuto
import Derived.Deep.RegionHeld3
namespace Go.Proofs.Ytnhbilcpdombfaa
open Go.RowKit

def listR (l : List (Int × Int)) (most : Nat) : Int := if most < l.length then 3 else if l.all validR then 0 else 7
theorem take_all_succ {α : Type} (P : α → Bool) (l : List α) (k : Nat) (h : k < l.length) : (l.take (k + 1)).all P = ((l.take k).all P && P (l[k]'h)) := by
  rw [List.take_add_one, List.getElem?_eq_getElem h, List.all_append]; simp
theorem all_no {α : Type} {P : α → Bool} {l : List α} {k : Nat} (h : k < l.length) (hP : P (l[k]'h) = false) : l.all P = false := by
  cases ha : l.all P with
  | false => rfl
  | true => rw [List.all_eq_true.1 ha _ (List.getElem_mem h)] at hP; cases hP
set_option maxHeartbeats 1000000 in
set_option maxRecDepth 100000 in
theorem checkList_any (l : List (Int × Int)) (p : Option Addr) (cap most : Nat) (w : World) (h : SpsAt w p l) (hm : most ≤ 100000) :
    Calls Try.prog 47 #[.slice p l.length cap, .int .i64 (most : Int)] w (ErrPost (listR l most) w) := by
  have hlm := h.len
  unfold maxLen at hlm
  have HW := Lib.hid h
  clear h
  by_cases h1 : most < l.length
  · have e : listR l most = 3 := by unfold listR; rw [if_pos h1]
    have E := Lib.hid e
    have i1 : (most : Int) < l.length := by omega
    clear e
    go_enter Try.func47, Try.ntmps47
    go_wp2_with fail
    go_ret
    exact errPost_mk E.out (Below.refl _ _)
  · have e : listR l most = if l.all validR then 0 else 7 := by unfold listR; rw [if_neg h1]
    have E := Lib.hid e
    have i1 : ¬ (most : Int) < l.length := by omega
    have l4 : (l.length : Int) ≤ 100000 := by omega
    clear e
    go_enter Try.func47, Try.ntmps47
    go_wp2_with fail
    go_loopg [13] l.length (fun n1 i wr => ∃ k : Nat, k + n1 = l.length ∧ i = .int .i64 k ∧ Below w.heap.size w wr ∧ (l.take k).all validR = true)
    case atStart => exact ⟨0, by omega, by go_num, Below.refl _ _, by simp⟩
    case round =>
      obtain ⟨k, hkn, rfl, hbw, hall⟩ := hrel
      have HB := Lib.hid hbw; have HALL := Lib.hid hall
      clear hbw hall
      have k0 : (0 : Int) ≤ k := by omega
      by_cases hlt : k < l.length
      · obtain ⟨n', rfl⟩ : ∃ n', gk = n' + 1 := ⟨gk - 1, by omega⟩
        obtain ⟨g, off, rfl, hg, hc⟩ := (HW.out.below HB.out).at_ (by omega)
        obtain ⟨c0, c1⟩ := hc k hlt
        have hft := HW.out.fit _ (List.getElem_mem hlt)
        have hts := take_all_succ validR l k hlt
        have hno := fun h => all_no (P := validR) hlt h
        have i2 : (k : Int) < l.length := by omega
        have hxy : l[k]'hlt = ((l[k]'hlt).1, (l[k]'hlt).2) := rfl
        rw [hxy] at hft hts hno
        generalize (l[k]'hlt).1 = x at c0 hft hts hno
        generalize (l[k]'hlt).2 = y at c1 hft hts hno
        have cv := fun W => valid_any x y W hft
        rw [HALL.out, Bool.true_and] at hts
        unfold BoolPost at cv
        clear hc hxy hft
        cases hv : validR (x, y)
        · have HF := Lib.hid (show listR l most = 7 by rw [E.out, hno hv]; rfl)
          rw [hv] at cv
          have CV := Lib.hid cv
          clear cv hts hno hv
          go_wp2_with (go_at_call 69; refine (CV.out _).mono ?_; rintro e w' ⟨rfl, hb⟩; have HB2 := Lib.hid (HB.out.trans ((boxB hb).mono HB.out.size)); clear hb)
          go_ret
          exact errPost_mk HF.out HB2.out
        · rw [hv] at cv hts
          have CV := Lib.hid cv; have HTS := Lib.hid hts
          clear cv hts hno hv
          go_wp2_with (go_at_call 69; refine (CV.out _).mono ?_; rintro e w' ⟨rfl, hb⟩; have HB2 := Lib.hid (HB.out.trans ((boxB hb).mono HB.out.size)); clear hb)
          go_roundg n'
          case measure => omega
          case rel => exact ⟨k + 1, by omega, by go_num, HB2.out, HTS.out⟩
      · obtain rfl : k = l.length := by omega
        have hf : listR l most = 0 := by have := HALL.out; rw [List.take_length] at this; rw [E.out, this]; rfl
        have HF := Lib.hid hf
        have i2 : ¬ ((l.length : Nat) : Int) < l.length := by omega
        clear hf
        go_wp2_with fail
        go_ret
        exact errPost_mk HF.out HB.out
/-- Each span but the first begins behind the page that follows the span before it. -/
def gapsR (l : List (Int × Int)) (k : Nat) : Bool := (List.range k).all fun i => i == 0 || decide ((l[i - 1]?.getD (0, 0)).1 + (l[i - 1]?.getD (0, 0)).2 < (l[i]?.getD (0, 0)).1)
theorem gapsR_succ (l : List (Int × Int)) (k : Nat) : gapsR l (k + 1) = (gapsR l k && (k == 0 || decide ((l[k - 1]?.getD (0, 0)).1 + (l[k - 1]?.getD (0, 0)).2 < (l[k]?.getD (0, 0)).1))) := by
  unfold gapsR; rw [List.range_succ, List.all_append]; simp
theorem gapsR_no {l : List (Int × Int)} {k m : Nat} (h : gapsR l k = false) (hm : k ≤ m) : gapsR l m = false := by
  cases hg : gapsR l m with
  | false => rfl
  | true =>
    unfold gapsR at h hg
    rw [List.all_eq_true] at hg
    have : (List.range k).all (fun i => i == 0 || decide ((l[i - 1]?.getD (0, 0)).1 + (l[i - 1]?.getD (0, 0)).2 < (l[i]?.getD (0, 0)).1)) = true := List.all_eq_true.2 fun i hi => hg i (List.mem_range.2 (Nat.lt_of_lt_of_le (List.mem_range.1 hi) hm))
    rw [this] at h; cases h
/-- What Check returns. -/
def checkR (l : List (Int × Int)) : Int := if listR l 512 ≠ 0 then listR l 512 else if gapsR l l.length then 0 else 6
theorem listR_ok {l : List (Int × Int)} {most : Nat} (h : listR l most = 0) : l.length ≤ most ∧ l.all validR = true := by
  unfold listR at h
  by_cases h1 : most < l.length
  · rw [if_pos h1] at h; cases h
  · rw [if_neg h1] at h
    refine ⟨by omega, ?_⟩
    cases ha : l.all validR with
    | true => rfl
    | false => rw [ha] at h; cases h
theorem wrapN (N p : Nat) (hN : N = p + 1) (h5 : p < 100000) : IntKind.i64.wrap ((N : Int) - 1) = (p : Int) ∧ IntKind.i64.wrap (p : Int) = (p : Int) ∧ (N : Int) - 1 = (p : Int) := by
  have h : (N : Int) - 1 = (p : Int) := by omega
  exact ⟨by rw [h]; exact IntWalk.i64_in _ (by omega), IntWalk.i64_in _ (by omega), h⟩
theorem keep3 {W W' : World} {a b c : Addr} {X Y Z : Value} (hb : Below W.heap.size W W') (hS : W.cell? a = some X ∧ W.cell? b = some Y ∧ W.cell? c = some Z) : W'.cell? a = some X ∧ W'.cell? b = some Y ∧ W'.cell? c = some Z := by
  have k : ∀ {q v}, W.cell? q = some v → W'.cell? q = some v := fun h => (hb.cell (World.block_lt_of_cell? W _ h)).trans h
  exact ⟨k hS.1, k hS.2.1, k hS.2.2⟩
def BoolAt (b : Bool) (w1 : World) (a : Value) (W : World) : Prop := a = .bool b ∧ Below w1.heap.size w1 W
set_option maxHeartbeats 2000000 in
set_option maxRecDepth 100000 in
theorem check_any (l : List (Int × Int)) (p : Option Addr) (cap : Nat) (w : World) (h : SpsAt w p l) :
    Calls Try.prog 15 #[.slice p l.length cap] w (ErrPost (checkR l) w) := by
  have cl := fun W (hW : Below w.heap.size w W) => checkList_any l p cap 512 W (h.below hW) (by omega)
  have e : checkR l = if listR l 512 ≠ 0 then listR l 512 else if gapsR l l.length then 0 else 6 := rfl
  have hok := listR_ok (l := l) (most := 512)
  have HW := Lib.hid h
  unfold ErrPost at cl
  rw [show ((512 : Nat) : Int) = 512 from rfl] at cl
  generalize listR l 512 = c at cl e hok
  generalize checkR l = r at e
  have CL := Lib.hid cl
  clear cl h
  by_cases hc : c ≠ 0
  · rw [if_pos hc] at e
    obtain ⟨t1, t2⟩ := neq0 hc
    have E := Lib.hid e
    clear e hc hok
    go_enter Try.func15, Try.ntmps15
    go_wp2_with fail
    refine (CL.out _ (Below.refl _ _)).mono ?_
    rintro e w1 ⟨rfl, hb⟩
    have HB1 := Lib.hid hb
    clear hb
    go_wp2_with fail
    go_ret
    exact errPost_mk E.out HB1.out
  · obtain rfl : c = 0 := Classical.not_not.1 hc
    rw [if_neg (by simp)] at e
    obtain ⟨hl, hv⟩ := hok rfl
    have E := Lib.hid e
    have HV := Lib.hid (List.all_eq_true.1 hv)
    have l4 : (l.length : Int) ≤ 512 := by omega
    clear e hc hok hv
    go_enter Try.func15, Try.ntmps15
    go_wp2_with fail
    refine (CL.out _ (Below.refl _ _)).mono ?_
    rintro e w1 ⟨rfl, hb⟩
    have HB1 := Lib.hid hb
    clear hb
    go_wp2_with fail
    go_loopg [4] l.length (fun n1 i wr => ∃ k : Nat, k + n1 = l.length + 1 ∧ 1 ≤ k ∧ (k ≤ l.length ∨ k = 1) ∧ i = .int .i64 k ∧ Below w.heap.size w wr ∧ gapsR l k = true)
    case atStart => exact ⟨1, by omega, Nat.le_refl _, .inr rfl, rfl, HB1.out, rfl⟩
    case round =>
      clear HB1
      obtain ⟨k, hkn, hk1, hkl, rfl, hbw, hall⟩ := hrel
      have HB := Lib.hid hbw; have HALL := Lib.hid hall
      clear hbw hall
      have k0 : (0 : Int) ≤ k := by omega
      by_cases hlt : k < l.length
      · obtain ⟨n', rfl⟩ : ∃ n', gk = n' + 1 := ⟨gk - 1, by omega⟩
        obtain ⟨j, hj⟩ : ∃ j, k = j + 1 := ⟨k - 1, by omega⟩
        have hjl : j < l.length := by omega
        obtain ⟨g, off, rfl, hg, hc⟩ := (HW.out.below HB.out).at_ (by omega)
        obtain ⟨c0, _⟩ := hc k hlt
        obtain ⟨d0, d1⟩ := hc j hjl
        obtain ⟨w1', w2', w3'⟩ := wrapN k j hj (by omega)
        have hs := gapsR_succ l k
        have hkz : (k == 0) = false := by simp; omega
        rw [HALL.out, hkz, Bool.true_and, Bool.false_or, show k - 1 = j by omega, List.getElem?_eq_getElem hlt, List.getElem?_eq_getElem hjl, Option.getD_some, Option.getD_some] at hs
        have hv1 := (validR_iff _).1 (HV.out _ (List.getElem_mem hlt))
        have hv2 := (validR_iff _).1 (HV.out _ (List.getElem_mem hjl))
        have hno := fun h => gapsR_no (l := l) (k := k + 1) (m := l.length) h hlt
        rw [hs] at hno
        generalize (l[k]'hlt).1 = x at c0 hs hv1 hno
        generalize (l[j]'hjl).1 = x' at d0 hs hv2 hno
        generalize (l[j]'hjl).2 = y' at d1 hs hv2 hno
        have ce := fun W => end_any x' y' W (by omega)
        have CE := Lib.hid ce; have HS := Lib.hid hs; have HNO := Lib.hid hno
        have i2 : (k : Int) < l.length := by omega
        have j0 : (0 : Int) ≤ j := by omega
        have j1 : (j : Int) < l.length := by omega
        have hs0 : wr.drew.cell? ⟨g, off + k * 2, none⟩ = some (.int .i64 x) ∧ wr.drew.cell? ⟨g, off + j * 2, none⟩ = some (.int .i64 x') ∧ wr.drew.cell? ⟨g, off + j * 2 + 1, none⟩ = some (.int .i64 y') := ⟨c0, d0, d1⟩
        have hbd := Lib.hid (show Below wr.heap.size wr wr.drew from drewOne _ _)
        have HJ := Lib.hid hj
        clear ce hs hno hkz hc hj
        go_upto_region 7 with fail
        go_cut [27] (fun a wx => BoolAt (decide (x ≤ x' + y')) wr a wx)
        case first =>
          go_region_held3 (fun W => W.cell? ⟨g, off + k * 2, none⟩ = some (.int .i64 x) ∧ W.cell? ⟨g, off + j * 2, none⟩ = some (.int .i64 x') ∧ W.cell? ⟨g, off + j * 2 + 1, none⟩ = some (.int .i64 y')) (first | exact hs0 | exact keep3 hbz (by assumption)) (first
            | (go_at_call 52; refine Calls.mono (CE.out _) ?_; rintro e wz ⟨rfl, hbz⟩; have hbd := Lib.hid (below_next hbd.out hbz)))
          all_goals
            go_wp2_with fail
            go_meet
            exact ⟨rfl, hbd.out⟩
        case rest =>
          obtain ⟨rfl, hb⟩ := hcut
          have HB2 := Lib.hid (below_next HB.out hb)
          clear hb hs0 hbd c0 d0 d1 w1' w2' w3'
          by_cases hle : x ≤ x' + y'
          · have HF := Lib.hid (show r = 6 by rw [E.out, HNO.out (by simp; omega)]; rfl)
            go_wp2_with fail
            go_ret
            exact errPost_mk HF.out HB2.out
          · have HG := Lib.hid (show gapsR l (k + 1) = true by rw [HS.out]; simp; omega)
            go_wp2_with fail
            go_roundg n'
            case measure => omega
            case rel => exact ⟨k + 1, by omega, by omega, .inl (by omega), by go_num, HB2.out, HG.out⟩
      · have hg : gapsR l l.length = true := by
          rcases hkl with h | h
          · rw [show l.length = k by omega]; exact HALL.out
          · have h0 := HALL.out
            rw [h] at h0
            rcases Nat.lt_or_ge l.length 1 with h2 | h2
            · rw [show l.length = 0 by omega]; rfl
            · rw [show l.length = 1 by omega]; exact h0
        have HF := Lib.hid (show r = 0 by rw [E.out, hg]; rfl)
        have i2 : ¬ (k : Int) < l.length := by omega
        clear hg
        go_wp2_with fail
        go_ret
        exact errPost_mk HF.out HB.out
end Go.Proofs.Ytnhbilcpdombfaa
