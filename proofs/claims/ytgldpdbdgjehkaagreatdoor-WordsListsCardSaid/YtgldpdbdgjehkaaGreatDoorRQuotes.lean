/- The reference's Quote and Unquote. -/
import Derived.Test.YtgldpdbdgjehkaaGreatDoorRNames
import Derived.Test.YtgldpdbdgjehkaaGreatDoorQuotes
namespace Go.Proofs.YtgldpdbdgjehkaaGreatDoor
open Go.RowKit

theorem dbl_app (a b : List UInt8) : dbl (a ++ b) = dbl a ++ dbl b := by
  induction a with
  | nil => rfl
  | cons c a ih => rw [List.cons_append, dbl, dbl]; split <;> simp [ih]
theorem extract_one (s : ByteArray) (k : Nat) (h : k < s.size) : s.extract k (k + 1) = ⟨#[s[k]]⟩ := by
  refine ba_eq ?_
  rw [Lib.extract_data]
  have : s.data.toList[k]'(by rw [size_list]; exact h) = s[k] := rfl
  rw [show k + 1 - k = 1 by omega, List.take_one, List.head?_drop, List.getElem?_eq_getElem (by rw [size_list]; exact h), this]; rfl
theorem ret_tup {a b : ByteArray} {n : Int} (h : a = b) : Ending.returned (.tuple #[.string a, .int .i64 n]) = .returned (.tuple #[.string b, .int .i64 n]) := by rw [h]
def RQPost (r : List UInt8 × Int) (w : World) (e : Ending) (w' : World) : Prop := e = .returned (.tuple #[.string ⟨r.1.toArray⟩, .int .i64 r.2]) ∧ w = w'

set_option maxHeartbeats 1000000 in
theorem rquote_any (s : ByteArray) (w : World) (hs : s.size ≤ maxLen) : Calls Tryz.prog 33 #[.string s] w (RQPost (quoteR s.data.toList) w) := by
  have c := rtext_any s
  unfold quoteR
  cases ht : textB s.data.toList
  · have c1 := c w hs
    rw [ht] at c1
    have C := Lib.hid c1; clear c c1 ht
    go_enter Tryz.func33, Tryz.ntmps33
    go_wp2_with (go_at_call 18; refine (C.out).mono ?_; rintro e w' ⟨rfl, rfl⟩)
    go_ret2
    exact ⟨rfl, rfl⟩
  · have c1 := c w hs
    rw [ht] at c1
    have h200 : s.size ≤ 200 := by
      have := ht; simp only [textB, Bool.and_eq_true, decide_eq_true_eq] at this; rw [← size_list]; exact this.1
    have C := Lib.hid c1; clear c c1 ht
    go_enter Tryz.func33, Tryz.ntmps33
    go_wp2_with (go_at_call 18; refine (C.out).mono ?_; rintro e w' ⟨rfl, rfl⟩)
    go_loop [4, 5] (fun v i => ∃ k : Nat, k ≤ s.size ∧ i = .int .i64 k ∧ v = .string ⟨(34 :: dbl (s.data.toList.take k)).toArray⟩) (fun _ i => s.size - (intOf i).toNat)
    case atStart => exact ⟨0, Nat.zero_le _, rfl, rfl⟩
    case round =>
      obtain ⟨k, hk, rfl, rfl⟩ := hrel
      by_cases hlt : k < s.size
      · have he1 := extract_one s k hlt
        have hsn : dbl (s.data.toList.take (k + 1)) = dbl (s.data.toList.take k) ++ dbl [s[k]] := by rw [take_snoc s k hlt, dbl_app]
        have hlen : (dbl (s.data.toList.take k)).length ≤ 400 := by have := dbl_length (s.data.toList.take k); rw [List.length_take] at this; omega
        generalize dbl (s.data.toList.take k) = X at hsn hlen ⊢
        have HSN := Lib.hid hsn; clear hsn C
        obtain ⟨c, hc⟩ : ∃ c : UInt8, s[k] = c := ⟨_, rfl⟩
        rw [hc] at he1
        by_cases h34 : c = 34
        · have h3 : ((s[k].toNat : Int) == 34) = true := by rw [hc, h34]; rfl
          rw [h34] at he1
          have hd : dbl [s[k]] = [34, 34] := by rw [hc, h34]; rfl
          have HD := Lib.hid hd; clear hd hc h34
          go_wp2_with fail
          refine ⟨⟨k + 1, by omega, by go_num, congrArg Value.string (ba_eq (by rw [HSN.out, HD.out]; simp))⟩, by simp [intOf]; omega⟩
        · have h3 : ((s[k].toNat : Int) == 34) = false := by
            rw [hc, beq_eq_false_iff_ne]; intro e; exact h34 (UInt8.toNat_inj.1 (by show c.toNat = 34; omega))
          have hd : dbl [s[k]] = [c] := by rw [hc, dbl, if_neg h34]; rfl
          have HD := Lib.hid hd; clear hd hc h34
          go_wp2_with fail
          refine ⟨⟨k + 1, by omega, by go_num, congrArg Value.string (ba_eq (by rw [HSN.out, HD.out]; simp))⟩, by simp [intOf]; omega⟩
      · obtain rfl : k = s.size := by omega
        have hlen : (dbl s.data.toList).length ≤ 400 := by have := dbl_length s.data.toList; rw [size_list] at this; omega
        rw [take_all]
        clear C
        go_wp2_with fail
        go_ret2
        exact ⟨ret_tup (ba_eq (by simp [quoteL])), rfl⟩

/-- The text within the quotes, its double quotes halved; nothing if one stands alone. -/
def uq : List UInt8 → Option (List UInt8)
  | [] => some []
  | [c] => if c = 34 then none else some [c]
  | c :: d :: r => if c = 34 then (if d = 34 then (uq r).map (34 :: ·) else none) else (uq (d :: r)).map (c :: ·)
theorem uq_dbl (t : List UInt8) : uq (dbl t) = some t := by
  induction t with
  | nil => rfl
  | cons b l ih =>
    rw [dbl]
    by_cases hb : b = 34
    · subst hb; rw [if_pos rfl, uq, if_pos rfl, if_pos rfl, ih]; rfl
    · rw [if_neg hb]
      cases hd : dbl l with
      | nil => rw [hd] at ih; rw [uq, if_neg hb]; cases ih; rfl
      | cons c r => rw [uq, if_neg hb, ← hd, ih]; rfl
theorem dbl_uq : ∀ (n : Nat) (T t : List UInt8), T.length ≤ n → uq T = some t → dbl t = T := by
  intro n
  induction n with
  | zero => intro T t hn h; obtain rfl : T = [] := List.length_eq_zero_iff.1 (by omega); cases h; rfl
  | succ n ih =>
    intro T t hn h
    rcases T with _ | ⟨c, _ | ⟨d, r⟩⟩
    · cases h; rfl
    · rw [uq] at h
      by_cases hc : c = 34
      · rw [if_pos hc] at h; cases h
      · rw [if_neg hc] at h; cases h; rw [dbl, if_neg hc]; rfl
    · simp only [List.length_cons] at hn
      rw [uq] at h
      by_cases hc : c = 34
      · rw [if_pos hc] at h
        by_cases hd : d = 34
        · rw [if_pos hd] at h
          obtain ⟨t', h1, h2⟩ := Option.map_eq_some_iff.1 h
          subst h2
          rw [dbl, if_pos rfl, ih r t' (by omega) h1, hc, hd]
        · rw [if_neg hd] at h; cases h
      · rw [if_neg hc] at h
        obtain ⟨t', h1, h2⟩ := Option.map_eq_some_iff.1 h
        subst h2
        rw [dbl, if_neg hc, ih (d :: r) t' (by simp; omega) h1]
/-- What stands between two quotes. -/
theorem unquoteR_in (T : List UInt8) : unquoteR (34 :: T ++ [34]) = match uq T with
    | some t => if textB t then (t, 0) else ([], 6)
    | none => ([], 6) := by
  have hl : (34 :: T ++ [34]).length = T.length + 2 := by simp
  have hm : ((34 :: T ++ [34]).drop 1).take (T.length + 2 - 1 - 1) = T := by simp
  unfold unquoteR
  rw [hl, if_neg (by omega), hm]
  cases hu : uq T with
  | some t =>
    have hd := dbl_uq _ T t (Nat.le_refl _) hu
    have hun : und T = t := by rw [← hd]; exact und_dbl t
    rw [hun]
    have hq : (quoteL t == 34 :: T ++ [34]) = true := by rw [quoteL, hd]; exact beq_self_eq_true _
    simp only [hq, Bool.and_true]
  | none =>
    have hq : (quoteL (und T) == 34 :: T ++ [34]) = false := by
      rw [beq_eq_false_iff_ne]; intro e
      have hd : dbl (und T) = T := by
        have : dbl (und T) ++ [34] = T ++ [34] := by simpa [quoteL] using e
        exact List.append_cancel_right this
      have := uq_dbl (und T)
      rw [hd, hu] at this; cases this
    rw [hq, Bool.and_false]; rfl
theorem unquoteR_out (l : List UInt8) (h : ¬ ∃ T, l = 34 :: T ++ [34]) : unquoteR l = ([], 6) := by
  unfold unquoteR
  by_cases h2 : l.length < 2
  · rw [if_pos h2]
  · rw [if_neg h2]
    have hq : (quoteL (und ((l.drop 1).take (l.length - 1 - 1))) == l) = false := by
      rw [beq_eq_false_iff_ne]; intro e; exact h ⟨_, e.symm⟩
    rw [hq, Bool.and_false]; rfl

theorem uq_one (c : UInt8) (R : List UInt8) (h : c ≠ 34) : uq (c :: R) = (uq R).map (c :: ·) := by
  cases R with
  | nil => simp [uq, h]
  | cons d r => rw [uq, if_neg h]
theorem uq_two (R : List UInt8) : uq (34 :: 34 :: R) = (uq R).map (34 :: ·) := by rw [uq, if_pos rfl, if_pos rfl]
theorem uq_alone (R : List UInt8) (h : ∀ r, R ≠ 34 :: r) : uq (34 :: R) = none := by
  cases R with
  | nil => simp [uq]
  | cons d r => rw [uq, if_pos rfl, if_neg (fun e => h r (by rw [e]))]
theorem map_app (X : List UInt8) (c : UInt8) (o : Option (List UInt8)) : (o.map (c :: ·)).map (X ++ ·) = o.map ((X ++ [c]) ++ ·) := by
  cases o <;> simp
def unqOf (F : Option (List UInt8)) : List UInt8 × Int := match F with
    | some t => if textB t then (t, 0) else ([], 6)
    | none => ([], 6)

set_option maxHeartbeats 2000000 in
theorem runquote_in (s : ByteArray) (T : List UInt8) (w : World) (hs : s.size ≤ 20000) (hl : s.data.toList = 34 :: T ++ [34]) : Calls Tryz.prog 35 #[.string s] w (RQPost (unqOf (uq T)) w) := by
  have hsz : s.size = T.length + 2 := by rw [← size_list, hl]; simp
  have hT : ∀ (k : Nat) (h : k < T.length) (h' : k + 1 < s.size), s[k + 1] = T[k] := by
    intro k h h'
    have e1 : s.data.toList[k + 1]? = some T[k] := by
      rw [hl, List.cons_append, List.getElem?_cons_succ, List.getElem?_append_left h]; exact List.getElem?_eq_getElem h
    exact Option.some.inj ((List.getElem?_eq_getElem (by rw [size_list]; exact h')).symm.trans e1)
  have h0 : 0 < s.size := by omega
  have hlast : s.size - 1 < s.size := by omega
  have f0 : ((s[0].toNat : Int) == 34) = true := by
    have e1 : s.data.toList[0]? = some 34 := by rw [hl]; rfl
    have : s[0] = 34 := Option.some.inj ((List.getElem?_eq_getElem (by rw [size_list]; exact h0)).symm.trans e1)
    rw [this]; rfl
  have f1 : s[s.size - 1] = 34 := by
    have e1 : s.data.toList[s.size - 1]? = some 34 := by rw [hl, hsz]; simp
    exact Option.some.inj ((List.getElem?_eq_getElem (by rw [size_list]; exact hlast)).symm.trans e1)
  have n0 : ((s[0].toNat : Int) != 34) = false := by rw [bne, f0]; rfl
  have n1 : ((s[s.size - 1].toNat : Int) != 34) = false := by rw [f1]; rfl
  have h2 : ¬ (s.size : Int) < 2 := by omega
  have b1 : (1 : Int) ≤ s.size := by omega
  have HT := Lib.hid hT; have HSZ := Lib.hid hsz; have HL := Lib.hid hl
  clear hT f0 f1 hsz hl
  go_enter Tryz.func35, Tryz.ntmps35
  go_wp2_with fail
  go_loop [4, 5] (fun v i => ∃ (k : Nat) (X : List UInt8), k ≤ T.length ∧ i = .int .i64 ((k + 1 : Nat) : Int) ∧ v = .string ⟨X.toArray⟩ ∧ X.length ≤ k ∧ (uq (T.drop k)).map (X ++ ·) = uq T) (fun _ i => s.size - (intOf i).toNat)
  case atStart => exact ⟨0, [], Nat.zero_le _, rfl, rfl, Nat.le_refl _, by simp⟩
  case round =>
    obtain ⟨k, X, hk, rfl, rfl, hX, hF⟩ := hrel
    have hsz := HSZ.out
    by_cases hlt : k < T.length
    · obtain ⟨m, hm⟩ : ∃ m : Nat, m = k + 1 := ⟨_, rfl⟩
      have hms : m < s.size := by omega
      have hm1 : (m : Int) < (s.size : Int) - 1 := by omega
      have he1 := extract_one s m hms
      have hc : s[m] = T[k] := by simp only [hm]; exact HT.out k hlt (by omega)
      have hdr : T.drop k = T[k] :: T.drop (k + 1) := List.drop_eq_getElem_cons hlt
      rw [hdr] at hF
      rw [hc] at he1
      have hlen : X.length ≤ 20000 := by omega
      rw [← hm]
      have HM := Lib.hid hm
      generalize hcc : T[k] = c at hF he1 hc
      clear hdr hcc
      by_cases h34 : c = 34
      · have h3 : ((s[m].toNat : Int) == 34) = true := by rw [hc, h34]; rfl
        rw [h34] at he1 hF
        by_cases hend : k + 1 = T.length
        · have hz : ((m : Int) + 1 == (s.size : Int) - 1) = true := beq_iff_eq.2 (by omega)
          have hFn : uq T = none := by
            rw [← hF, uq_alone _ (by intro r e; have := congrArg List.length e; simp at this; omega)]; rfl
          have HF := Lib.hid hFn
          clear hF hFn hc h34 hsz HSZ HT HL hX hend hm hk hlt
          go_wp2_with fail
          go_ret2
          exact ⟨by rw [HF.out]; rfl, rfl⟩
        · have hz : ((m : Int) + 1 == (s.size : Int) - 1) = false := beq_eq_false_iff_ne.2 (by omega)
          have hlt2 : k + 1 < T.length := by omega
          have hms2 : m + 1 < s.size := by omega
          have hd : s[m + 1] = T[k + 1] := by simp only [hm]; exact HT.out (k + 1) hlt2 (by omega)
          have hdr : T.drop (k + 1) = T[k + 1] :: T.drop (k + 1 + 1) := List.drop_eq_getElem_cons hlt2
          rw [hdr] at hF
          generalize hdd : T[k + 1] = d at hF hd
          clear hdr hdd
          by_cases hd34 : d = 34
          · have h4 : ((s[m + 1].toNat : Int) != 34) = false := by rw [hd, hd34]; rfl
            rw [hd34, uq_two, map_app] at hF
            have HF := Lib.hid hF
            clear hF hc h34 hd hd34 hsz hm hend
            go_wp2_with fail
            go_round
            case rel => exact ⟨k + 1 + 1, X ++ [34], by omega, by rw [← HM.out]; go_num, congrArg Value.string (ba_eq (by simp)), by simp; omega, HF.out⟩
            case measure => have := HSZ.out; have := HM.out; simp [intOf]; omega
          · have h4 : ((s[m + 1].toNat : Int) != 34) = true := by
              rw [hd, bne_iff_ne]; intro e; exact hd34 (UInt8.toNat_inj.1 (by show d.toNat = 34; omega))
            have hFn : uq T = none := by
              rw [← hF, uq_alone _ (by intro r e; injection e with e1 e2; exact hd34 e1)]; rfl
            have HF := Lib.hid hFn
            clear hF hFn hc h34 hsz HSZ HT HL hX hend hm hk hlt hd hd34
            go_wp2_with fail
            go_ret2
            exact ⟨by rw [HF.out]; rfl, rfl⟩
      · have h3 : ((s[m].toNat : Int) == 34) = false := by
          rw [hc, beq_eq_false_iff_ne]; intro e; exact h34 (UInt8.toNat_inj.1 (by show c.toNat = 34; omega))
        rw [uq_one c _ h34, map_app] at hF
        have HF := Lib.hid hF
        clear hF hc h34 hsz hm
        go_wp2_with fail
        go_round
        case rel => exact ⟨k + 1, X ++ [c], by omega, by rw [← HM.out]; go_num, congrArg Value.string (ba_eq (by simp)), by simp; omega, HF.out⟩
        case measure => have := HSZ.out; have := HM.out; simp [intOf]; omega
    · obtain rfl : k = T.length := by omega
      rw [List.drop_length] at hF
      have hFn : uq T = some X := by rw [← hF]; simp [uq]
      have ct := fun W => rtext_any ⟨X.toArray⟩ W (by show X.toArray.size ≤ maxLen; simp; unfold maxLen; omega)
      rw [show (⟨X.toArray⟩ : ByteArray).data.toList = X by simp] at ct
      have hm1 : ¬ ((T.length + 1 : Nat) : Int) < (s.size : Int) - 1 := by omega
      generalize hmm : T.length + 1 = m at hm1 ⊢
      have hres : unqOf (uq T) = if textB X then (X, 0) else ([], 6) := by rw [hFn]; rfl
      generalize textB X = b at ct hres
      have CT := Lib.hid ct; have HR := Lib.hid hres
      clear hF hFn ct hres hsz hmm
      cases b
      · go_wp2_with (go_at_call 18; refine (CT.out _).mono ?_; rintro e w' ⟨rfl, rfl⟩)
        go_ret2
        exact ⟨by rw [HR.out]; rfl, rfl⟩
      · go_wp2_with (go_at_call 18; refine (CT.out _).mono ?_; rintro e w' ⟨rfl, rfl⟩)
        go_ret2
        exact ⟨by rw [HR.out]; rfl, rfl⟩
end Go.Proofs.YtgldpdbdgjehkaaGreatDoor
