/- The reference's Int. -/
import Derived.Test.YtgldpdbdgjehkaaGreatDoorNMath
namespace Go.Proofs.YtgldpdbdgjehkaaGreatDoor
open Go.RowKit

theorem rwhole_any (s : ByteArray) (w : World) (hs : s.size ≤ maxLen) : Calls Tryz.prog 52 #[.string s] w fun e w' => e = .returned (.bool (decB s.data.toList)) ∧ w = w' := by
  by_cases h0 : s.size = 0
  · obtain rfl : s = ⟨#[]⟩ := by obtain ⟨⟨l⟩⟩ := s; cases l with | nil => rfl | cons a b => exact absurd h0 (Nat.succ_ne_zero _)
    clear hs h0
    go_enter Tryz.func52, Tryz.ntmps52
    go_wp2_with fail
    refine wp_loop_rounds 1 ?_
    rw [rounds_succ]
    go_wp2_with fail
    go_ret
    exact ⟨rfl, rfl⟩
  · have hp : 0 < s.size := by omega
    obtain ⟨b, r, hl⟩ : ∃ b r, s.data.toList = b :: r := by
      cases h : s.data.toList with
      | nil => exact absurd (by rw [← size_list, h]; rfl) h0
      | cons b r => exact ⟨b, r, rfl⟩
    have hb : s[0] = b := by
      have : s.data.toList[0]'(by rw [size_list]; exact hp) = b := by simp [hl]
      exact this
    by_cases h45 : b = 45
    · have h : ((s[0].toNat : Int) == 45) = true := by rw [hb, h45]; rfl
      have c := whole_1 s w hs hp h
      rw [hl, h45] at c
      rw [hl, h45, decB_neg]
      have e : (natB (List.drop 1 (45 :: r)) && !(45 :: r == [45, 48])) = (natB r && !(r == [48])) := by
        rw [show (45 :: r == [45, 48]) = (r == [48]) by simp [BEq.beq, List.beq]]; rfl
      rw [e] at c; exact c
    · have h : ((s[0].toNat : Int) == 45) = false := by
        rw [hb, beq_eq_false_iff_ne]; intro e; exact h45 (UInt8.toNat_inj.1 (by show b.toNat = 45; omega))
      have c := whole_0 s w hs hp h
      rw [hl] at c
      rw [hl, decB_pos b r h45]
      have e : (natB (List.drop 0 (b :: r)) && !(b :: r == [45, 48])) = natB (b :: r) := by
        rw [show (b :: r == [45, 48]) = false by rw [beq_eq_false_iff_ne]; intro e; exact h45 (by injection e)]
        simp
      rw [e] at c; exact c
theorem wrap_step (v d : Int) : wrap64 (wrap64 (10 * wrap64 v) + d) = wrap64 (10 * v + d) := by unfold wrap64; omega
theorem wrap_range (v : Int) : -9223372036854775808 ≤ wrap64 v ∧ wrap64 v ≤ 9223372036854775807 := by unfold wrap64; omega
/-- The number of the first k bytes. -/
def pv (neg : Bool) (l : List UInt8) (k : Nat) : Int := if neg then -(dval 0 ((l.take k).drop 1) : Int) else (dval 0 (l.take k) : Int)
theorem pv_pos (l : List UInt8) (k : Nat) (h : k < l.length) (hd : 48 ≤ l[k].toNat) : pv false l (k + 1) = 10 * pv false l k + ((l[k].toNat : Int) - 48) := by
  simp only [pv, Bool.false_eq_true, if_false]
  rw [List.take_succ_eq_append_getElem h, dval_app, dval_one]
  omega
theorem pv_neg (l : List UInt8) (k : Nat) (h : k < l.length) (hk : 1 ≤ k) (hd : 48 ≤ l[k].toNat) : pv true l (k + 1) = 10 * pv true l k + -((l[k].toNat : Int) - 48) := by
  simp only [pv, if_true]
  rw [List.take_succ_eq_append_getElem h, List.drop_append_of_le_length (by rw [List.length_take]; omega), dval_app, dval_one]
  omega
theorem pv_zero (neg : Bool) (l : List UInt8) : pv neg l 0 = 0 := by cases neg <;> rfl
theorem pv_one (l : List UInt8) : pv true l 1 = 0 := by
  cases l with
  | nil => rfl
  | cons c r => rfl
def IntPost (l : List UInt8) (mn mx : Int) (w : World) (e : Ending) (w' : World) : Prop := e = .returned (.tuple #[.int .i64 (intR l mn mx).1, .int .i64 (intR l mn mx).2]) ∧ Below w.heap.size w w'
theorem intPost_mk {l : List UInt8} {mn mx a b : Int} {w w' : World} (h : intR l mn mx = (a, b)) (hb : Below w.heap.size w w') : IntPost l mn mx w (.returned (.tuple #[.int .i64 a, .int .i64 b])) w' := ⟨by rw [h], hb⟩

set_option maxHeartbeats 2000000 in
set_option maxRecDepth 100000 in
theorem rint_false (s : ByteArray) (mn mx : Int) (w : World) (hs : s.size ≤ 20) (h0 : 0 < s.size) (hmn : ¬ mx < mn) (hdec : decB s.data.toList = true) (h45 : ((s[0].toNat : Int) == 45) = false)
    (hd : ∀ (k : Nat) (h : k < s.size), isDigit (s[k].toNat : Int) = true) (hfin : pv false s.data.toList s.size = valI s.data.toList) :
    Calls Tryz.prog 20 #[.string s, .int .i64 mn, .int .i64 mx] w (IntPost s.data.toList mn mx w) := by
  have hsm : s.size ≤ maxLen := by unfold maxLen; omega
  have cw := fun W => rwhole_any s W hsm
  rw [hdec] at cw
  have CW := Lib.hid cw; clear cw hsm
  have HDG := Lib.hid hd
  have HDEC := Lib.hid hdec; have HFIN := Lib.hid hfin; have HMN := Lib.hid hmn
  clear hd hfin hdec
  go_enter Tryz.func20, Tryz.ntmps20
  go_wp2_with (go_at_call 52; refine (CW.out _).mono ?_; rintro e w' ⟨rfl, rfl⟩)
  go_loopw [8, 9, 10] (fun n i _ wr => ∃ k : Nat, k ≤ s.size ∧ i = .int .i64 k ∧ n = .int .i64 (wrap64 (pv false s.data.toList k)) ∧ Below w.heap.size w wr) (fun _ i _ _ => s.size - (intOf i).toNat)
  case atStart => exact ⟨0, Nat.zero_le _, rfl, by rw [pv_zero, IntWalk.wrap64_in 0 (by omega)], Below.refl _ _⟩
  case round =>
    obtain ⟨k, hk, rfl, rfl, hbw⟩ := hrel
    by_cases hlt : k < s.size
    · have HW := Lib.hid hbw; clear hbw
      have hlk : k < s.data.toList.length := by rw [size_list]; exact hlt
      have hsk : s.data.toList[k] = s[k] := rfl
      have c1 := fun W => rdigit_any (s[k].toNat : Int) W
      have hdig := HDG.out k hlt
      rw [hdig] at c1
      have hb := dig_bd hdig
      have hstep := pv_pos s.data.toList k hlk (by rw [hsk]; exact hb.1)
      rw [hsk] at hstep
      obtain ⟨c, hc⟩ : ∃ c : Int, (s[k].toNat : Int) = c := ⟨_, rfl⟩
      rw [hc] at c1
      have C1 := Lib.hid c1
      have b0 : 48 ≤ c := by omega
      have b1 : c ≤ 57 := by omega
      rw [hc] at hstep
      have HSTEP := Lib.hid hstep
      clear c1 hdig hstep hsk
      generalize pv false s.data.toList k = v at HSTEP ⊢
      go_wp2_with (go_at_call 48; refine (C1.out _).mono ?_; rintro e w' ⟨rfl, rfl⟩)
      refine ⟨⟨k + 1, by omega, by go_num, by rw [wrap_step, HSTEP.out], HW.out⟩, by simp [intOf]; omega⟩
    · obtain rfl : k = s.size := by omega
      have hdec := HDEC.out
      have hfin := HFIN.out
      rw [hfin]
      have hd := True.intro
      have hst : (⟨(Lib.itoa (wrap64 (valI s.data.toList))).toArray⟩ : ByteArray).data.toList = Lib.itoa (wrap64 (valI s.data.toList)) := by simp
      have cd := fun W => rdigits_any (wrap64 (valI s.data.toList)) (wrap_range _).1 (wrap_range _).2 W
      by_cases hr : -9223372036854775808 ≤ valI s.data.toList ∧ valI s.data.toList ≤ 9223372036854775807
      · have hw : wrap64 (valI s.data.toList) = valI s.data.toList := IntWalk.wrap64_in _ hr
        have hi := itoa_val _ hdec
        rw [hw] at cd hst ⊢
        unfold DigPost at cd
        rw [hi] at cd
        have es : (⟨s.data.toList.toArray⟩ : ByteArray) = s := ba_eq (by simp)
        rw [es] at cd
        have hR : intR s.data.toList mn mx = if mn ≤ valI s.data.toList ∧ valI s.data.toList ≤ mx then (valI s.data.toList, 0) else (0, 7) := by
          rw [intR_val, if_neg (by have := HMN.out; omega), if_neg (by rw [hdec]; decide)]
          by_cases h3 : mn ≤ valI s.data.toList ∧ valI s.data.toList ≤ mx
          · rw [if_pos h3, if_pos ⟨hr.1, hr.2, h3.1, h3.2⟩]
          · rw [if_neg h3, if_neg (fun h => h3 ⟨h.2.2.1, h.2.2.2⟩)]
        generalize valI s.data.toList = V at cd hR ⊢
        have CD := Lib.hid cd; have HR := Lib.hid hR; have HW := Lib.hid hbw
        clear cd hR hst hw hi hdec hr es hfin hd HDG hbw
        by_cases h1 : V < mn
        · go_wp2_with (go_at_call 22; refine (CD.out _).mono ?_; rintro e w' ⟨rfl, hb⟩)
          go_ret2
          exact intPost_mk (by rw [HR.out, if_neg (by omega)]) (HW.out.trans (hb.mono HW.out.size))
        · by_cases h2 : mx < V
          · go_wp2_with (go_at_call 22; refine (CD.out _).mono ?_; rintro e w' ⟨rfl, hb⟩)
            go_ret2
            exact intPost_mk (by rw [HR.out, if_neg (by omega)]) (HW.out.trans (hb.mono HW.out.size))
          · go_wp2_with (go_at_call 22; refine (CD.out _).mono ?_; rintro e w' ⟨rfl, hb⟩)
            go_ret2
            exact intPost_mk (by rw [HR.out, if_pos (by omega)]) (HW.out.trans (hb.mono HW.out.size))
      · have hne : ¬ Lib.itoa (wrap64 (valI s.data.toList)) = s.data.toList := by
          intro e
          have e2 := congrArg valI e
          rw [val_itoa] at e2
          have := wrap_range (valI s.data.toList)
          rw [e2] at this; exact hr this
        have hR : intR s.data.toList mn mx = (0, 7) := by
          rw [intR_val, if_neg (by have := HMN.out; omega), if_neg (by rw [hdec]; decide), if_neg (fun h => hr ⟨h.1, h.2.1⟩)]
        unfold DigPost at cd
        generalize wrap64 (valI s.data.toList) = V at cd hne ⊢
        have e2 : (Lib.itoa V == s.toList) = false := by rw [Lib.toList_data]; simpa using hne
        generalize Lib.itoa V = q at cd e2
        have CD := Lib.hid cd; have HR := Lib.hid hR; have HW := Lib.hid hbw
        clear cd hR hst hne hdec hr hfin hd HDG hbw
        go_wp2_with (go_at_call 22; refine (CD.out _).mono ?_; rintro e w' ⟨rfl, hb⟩)
        go_ret2
        exact intPost_mk HR.out (HW.out.trans (hb.mono HW.out.size))

set_option maxHeartbeats 2000000 in
set_option maxRecDepth 100000 in
theorem rint_true (s : ByteArray) (mn mx : Int) (w : World) (hs : s.size ≤ 20) (h0 : 0 < s.size) (hmn : ¬ mx < mn) (hdec : decB s.data.toList = true) (h45 : ((s[0].toNat : Int) == 45) = true)
    (hd : ∀ (k : Nat) (h : k < s.size), 1 ≤ k → isDigit (s[k].toNat : Int) = true) (hfin : pv true s.data.toList s.size = valI s.data.toList) :
    Calls Tryz.prog 20 #[.string s, .int .i64 mn, .int .i64 mx] w (IntPost s.data.toList mn mx w) := by
  have hsm : s.size ≤ maxLen := by unfold maxLen; omega
  have cw := fun W => rwhole_any s W hsm
  rw [hdec] at cw
  have CW := Lib.hid cw; clear cw hsm
  have HDG := Lib.hid hd
  have HDEC := Lib.hid hdec; have HFIN := Lib.hid hfin; have HMN := Lib.hid hmn
  clear hd hfin hdec
  go_enter Tryz.func20, Tryz.ntmps20
  go_wp2_with (go_at_call 52; refine (CW.out _).mono ?_; rintro e w' ⟨rfl, rfl⟩)
  go_loopw [8, 9, 10] (fun n i _ wr => ∃ k : Nat, k ≤ s.size ∧ i = .int .i64 k ∧ n = .int .i64 (wrap64 (pv true s.data.toList k)) ∧ Below w.heap.size w wr) (fun _ i _ _ => s.size - (intOf i).toNat)
  case atStart => exact ⟨0, Nat.zero_le _, rfl, by rw [pv_zero, IntWalk.wrap64_in 0 (by omega)], Below.refl _ _⟩
  case round =>
    obtain ⟨k, hk, rfl, rfl, hbw⟩ := hrel
    by_cases hlt : k < s.size
    · have HW := Lib.hid hbw; clear hbw
      have hlk : k < s.data.toList.length := by rw [size_list]; exact hlt
      have hsk : s.data.toList[k] = s[k] := rfl
      have c1 := fun W => rdigit_any (s[k].toNat : Int) W
      by_cases hk1 : 1 ≤ k
      · have hdig := HDG.out k hlt hk1
        rw [hdig] at c1
        have hb := dig_bd hdig
        have hstep := pv_neg s.data.toList k hlk hk1 (by rw [hsk]; exact hb.1)
        rw [hsk] at hstep
        obtain ⟨c, hc⟩ : ∃ c : Int, (s[k].toNat : Int) = c := ⟨_, rfl⟩
        rw [hc] at c1
        have C1 := Lib.hid c1
        have b0 : 48 ≤ c := by omega
        have b1 : c ≤ 57 := by omega
        rw [hc] at hstep
        have HSTEP := Lib.hid hstep
        clear c1 hdig hstep hsk
        generalize pv true s.data.toList k = v at HSTEP ⊢
        go_wp2_with (go_at_call 48; refine (C1.out _).mono ?_; rintro e w' ⟨rfl, rfl⟩)
        refine ⟨⟨k + 1, by omega, by go_num, by rw [wrap_step, HSTEP.out], HW.out⟩, by simp [intOf]; omega⟩
      · obtain rfl : k = 0 := by omega
        have h46 : (s[0].toNat : Int) = 45 := by simpa using h45
        rw [h46, show isDigit 45 = false by decide] at c1
        have C1 := Lib.hid c1
        clear c1 hsk
        go_wp2_with (go_at_call 48; refine (C1.out _).mono ?_; rintro e w' ⟨rfl, rfl⟩)
        refine ⟨⟨1, by omega, by go_num, by rw [pv_one, pv_zero], HW.out⟩, by simp [intOf]; omega⟩
    · obtain rfl : k = s.size := by omega
      have hdec := HDEC.out
      have hfin := HFIN.out
      rw [hfin]
      have hd := True.intro
      have hst : (⟨(Lib.itoa (wrap64 (valI s.data.toList))).toArray⟩ : ByteArray).data.toList = Lib.itoa (wrap64 (valI s.data.toList)) := by simp
      have cd := fun W => rdigits_any (wrap64 (valI s.data.toList)) (wrap_range _).1 (wrap_range _).2 W
      by_cases hr : -9223372036854775808 ≤ valI s.data.toList ∧ valI s.data.toList ≤ 9223372036854775807
      · have hw : wrap64 (valI s.data.toList) = valI s.data.toList := IntWalk.wrap64_in _ hr
        have hi := itoa_val _ hdec
        rw [hw] at cd hst ⊢
        unfold DigPost at cd
        rw [hi] at cd
        have es : (⟨s.data.toList.toArray⟩ : ByteArray) = s := ba_eq (by simp)
        rw [es] at cd
        have hR : intR s.data.toList mn mx = if mn ≤ valI s.data.toList ∧ valI s.data.toList ≤ mx then (valI s.data.toList, 0) else (0, 7) := by
          rw [intR_val, if_neg (by have := HMN.out; omega), if_neg (by rw [hdec]; decide)]
          by_cases h3 : mn ≤ valI s.data.toList ∧ valI s.data.toList ≤ mx
          · rw [if_pos h3, if_pos ⟨hr.1, hr.2, h3.1, h3.2⟩]
          · rw [if_neg h3, if_neg (fun h => h3 ⟨h.2.2.1, h.2.2.2⟩)]
        generalize valI s.data.toList = V at cd hR ⊢
        have CD := Lib.hid cd; have HR := Lib.hid hR; have HW := Lib.hid hbw
        clear cd hR hst hw hi hdec hr es hfin hd HDG hbw
        by_cases h1 : V < mn
        · go_wp2_with (go_at_call 22; refine (CD.out _).mono ?_; rintro e w' ⟨rfl, hb⟩)
          go_ret2
          exact intPost_mk (by rw [HR.out, if_neg (by omega)]) (HW.out.trans (hb.mono HW.out.size))
        · by_cases h2 : mx < V
          · go_wp2_with (go_at_call 22; refine (CD.out _).mono ?_; rintro e w' ⟨rfl, hb⟩)
            go_ret2
            exact intPost_mk (by rw [HR.out, if_neg (by omega)]) (HW.out.trans (hb.mono HW.out.size))
          · go_wp2_with (go_at_call 22; refine (CD.out _).mono ?_; rintro e w' ⟨rfl, hb⟩)
            go_ret2
            exact intPost_mk (by rw [HR.out, if_pos (by omega)]) (HW.out.trans (hb.mono HW.out.size))
      · have hne : ¬ Lib.itoa (wrap64 (valI s.data.toList)) = s.data.toList := by
          intro e
          have e2 := congrArg valI e
          rw [val_itoa] at e2
          have := wrap_range (valI s.data.toList)
          rw [e2] at this; exact hr this
        have hR : intR s.data.toList mn mx = (0, 7) := by
          rw [intR_val, if_neg (by have := HMN.out; omega), if_neg (by rw [hdec]; decide), if_neg (fun h => hr ⟨h.1, h.2.1⟩)]
        unfold DigPost at cd
        generalize wrap64 (valI s.data.toList) = V at cd hne ⊢
        have e2 : (Lib.itoa V == s.toList) = false := by rw [Lib.toList_data]; simpa using hne
        generalize Lib.itoa V = q at cd e2
        have CD := Lib.hid cd; have HR := Lib.hid hR; have HW := Lib.hid hbw
        clear cd hR hst hne hdec hr hfin hd HDG hbw
        go_wp2_with (go_at_call 22; refine (CD.out _).mono ?_; rintro e w' ⟨rfl, hb⟩)
        go_ret2
        exact intPost_mk HR.out (HW.out.trans (hb.mono HW.out.size))

theorem dig_all {l : List UInt8} (h : allP isDigit l = true) (k : Nat) (hk : k < l.length) : isDigit (l[k].toNat : Int) = true := by
  unfold allP at h; rw [List.all_eq_true] at h; exact h _ (List.getElem_mem hk)
theorem rint_any (s : ByteArray) (mn mx : Int) (w : World) (hs : s.size ≤ maxLen) : Calls Tryz.prog 20 #[.string s, .int .i64 mn, .int .i64 mx] w (IntPost s.data.toList mn mx w) := by
  by_cases hmn : mx < mn
  · have hR : intR s.data.toList mn mx = (0, 2) := by rw [intR, if_pos hmn]
    have HR := Lib.hid hR; clear hR
    go_enter Tryz.func20, Tryz.ntmps20
    go_wp2_with fail
    go_ret2
    exact intPost_mk HR.out (Below.refl _ _)
  · have cw := fun W => rwhole_any s W hs
    cases hdec : decB s.data.toList
    · rw [hdec] at cw
      have hR : intR s.data.toList mn mx = (0, 6) := by rw [intR, if_neg hmn, if_pos hdec]
      have HR := Lib.hid hR; have CW := Lib.hid cw; clear hR cw hdec
      go_enter Tryz.func20, Tryz.ntmps20
      go_wp2_with (go_at_call 52; refine (CW.out _).mono ?_; rintro e w' ⟨rfl, rfl⟩)
      go_ret2
      exact intPost_mk HR.out (Below.refl _ _)
    · by_cases h20 : s.size ≤ 20
      · obtain ⟨b, r, hl⟩ : ∃ b r, s.data.toList = b :: r := by
          cases h : s.data.toList with
          | nil => rw [h] at hdec; cases hdec
          | cons b r => exact ⟨b, r, rfl⟩
        have hp : 0 < s.size := by rw [← size_list, hl]; exact Nat.succ_pos _
        have hb : s[0] = b := by
          have : s.data.toList[0]'(by rw [size_list]; exact hp) = b := by simp [hl]
          exact this
        have hsk : ∀ (k : Nat) (h : k < s.size), s[k] = s.data.toList[k]'(by rw [size_list]; exact h) := fun k h => rfl
        by_cases h45 : b = 45
        · have hd := hdec
          rw [hl, h45, decB_neg, Bool.and_eq_true] at hd
          refine rint_true s mn mx w h20 hp hmn hdec (by rw [hb, h45]; rfl) (fun k h h1 => ?_) ?_
          · obtain ⟨j, rfl⟩ : ∃ j, k = j + 1 := ⟨k - 1, by omega⟩
            have h2 : j < r.length := by rw [← size_list, hl, List.length_cons] at h; omega
            have := dig_all (natB_parts hd.1).2 j h2
            rw [hsk (j + 1) h]
            have e : s.data.toList[j + 1]'(by rw [size_list]; exact h) = r[j] := by
              have e1 : s.data.toList[j + 1]? = some r[j] := by
                rw [hl, List.getElem?_cons_succ]; exact List.getElem?_eq_getElem h2
              exact Option.some.inj ((List.getElem?_eq_getElem _).symm.trans e1)
            rw [e]; exact this
          · rw [← size_list, pv, if_pos rfl, List.take_length, hl, h45, valI, if_pos rfl]; rfl
        · have hd := hdec
          rw [hl, decB_pos b r h45, ← hl] at hd
          have h46 : ((s[0].toNat : Int) == 45) = false := by
            rw [hb, beq_eq_false_iff_ne]; intro e; exact h45 (UInt8.toNat_inj.1 (by show b.toNat = 45; omega))
          refine rint_false s mn mx w h20 hp hmn hdec h46 (fun k h => dig_all (natB_parts hd).2 k (by rw [size_list]; exact h)) ?_
          rw [← size_list, pv, if_neg (by decide), List.take_length, hl, valI, if_neg h45]
      · have hR : intR s.data.toList mn mx = (0, 7) := by
          rw [intR_val, if_neg hmn, if_neg (by rw [hdec]; decide), if_neg]
          intro h; exact long_val _ hdec (by rw [size_list]; omega) ⟨h.1, h.2.1⟩
        rw [hdec] at cw
        have h20' : (20 : Int) < s.size := by omega
        have HR := Lib.hid hR; have CW := Lib.hid cw; clear hR cw hdec
        go_enter Tryz.func20, Tryz.ntmps20
        go_wp2_with (go_at_call 52; refine (CW.out _).mono ?_; rintro e w' ⟨rfl, rfl⟩)
        go_ret2
        exact intPost_mk HR.out (Below.refl _ _)
end Go.Proofs.YtgldpdbdgjehkaaGreatDoor
