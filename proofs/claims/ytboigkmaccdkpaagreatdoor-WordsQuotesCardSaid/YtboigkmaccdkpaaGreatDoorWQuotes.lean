/- WordsQuotes: the walk. -/
import Derived.Test.YtboigkmaccdkpaaGreatDoorRQuotes
import Derived.Test.YtboigkmaccdkpaaGreatDoorShown
namespace Go.Proofs.YtboigkmaccdkpaaGreatDoor
open Go.RowKit Go.Shelf

set_option maxHeartbeats 1000000 in
theorem runquote_any (s : ByteArray) (w : World) (hs : s.size ≤ 20000) : Calls Tryz.prog 35 #[.string s] w (RQPost (unquoteR s.data.toList) w) := by
  by_cases hq : ∃ T, s.data.toList = 34 :: T ++ [34]
  · obtain ⟨T, hT⟩ := hq
    have := runquote_in s T w hs hT
    rw [hT, unquoteR_in T]; exact this
  · rw [unquoteR_out _ hq]
    by_cases h2 : s.size < 2
    · clear hq
      go_enter Tryz.func35, Tryz.ntmps35
      go_wp2_with fail
      go_ret2
      exact ⟨rfl, rfl⟩
    · have h0 : 0 < s.size := by omega
      have hl1 : s.size - 1 < s.size := by omega
      have g2 : ¬ (s.size : Int) < 2 := by omega
      have b1 : (1 : Int) ≤ s.size := by omega
      by_cases h34 : s[0] = 34
      · have n0 : ((s[0].toNat : Int) != 34) = false := by rw [h34]; rfl
        have hne : ¬ s[s.size - 1] = 34 := by
          intro e
          refine hq ?_
          have ea : s.data.toList[0]? = some 34 := by rw [List.getElem?_eq_getElem (by rw [size_list]; exact h0)]; exact congrArg some h34
          have eb : s.data.toList[s.size - 1]? = some 34 := by rw [List.getElem?_eq_getElem (by rw [size_list]; exact hl1)]; exact congrArg some e
          have hsz : s.data.toList.length = s.size := size_list s
          generalize s.data.toList = l at ea eb hsz
          cases l with
          | nil => cases ea
          | cons c r =>
            have hr : r ≠ [] := by intro e; rw [e] at hsz; simp at hsz; omega
            have hc : c = 34 := by simpa using ea
            have hd : r.getLast hr = 34 := by
              rw [← hsz, List.length_cons, Nat.add_sub_cancel] at eb
              obtain ⟨j, hj⟩ : ∃ j, r.length = j + 1 := ⟨r.length - 1, by have := List.length_pos_iff.2 hr; omega⟩
              rw [hj, List.getElem?_cons_succ] at eb
              rw [List.getLast_eq_getElem]
              have : r[r.length - 1]? = some 34 := by rw [hj]; exact eb
              rw [List.getElem?_eq_getElem (by omega)] at this
              exact Option.some.inj this
            refine ⟨r.dropLast, ?_⟩
            have := List.dropLast_concat_getLast hr
            rw [hd] at this
            rw [hc, List.cons_append, this]
        have n1 : ((s[s.size - 1].toNat : Int) != 34) = true := by
          rw [bne_iff_ne]; intro e; exact hne (UInt8.toNat_inj.1 (by show s[s.size - 1].toNat = 34; omega))
        clear hq hne h34 h2
        go_enter Tryz.func35, Tryz.ntmps35
        go_wp2_with fail
        go_ret2
        exact ⟨rfl, rfl⟩
      · have n0 : ((s[0].toNat : Int) != 34) = true := by
          rw [bne_iff_ne]; intro e; exact h34 (UInt8.toNat_inj.1 (by show s[0].toNat = 34; omega))
        clear hq h34 h2
        go_enter Tryz.func35, Tryz.ntmps35
        go_wp2_with fail
        go_ret2
        exact ⟨rfl, rfl⟩

theorem unquote_quote (l : List UInt8) (h : textB l = true) : unquoteR (quoteL l) = (l, 0) := by
  rw [show quoteL l = 34 :: dbl l ++ [34] from rfl, unquoteR_in, uq_dbl]
  simp only [h, if_true]
theorem unquoteR_ways (l : List UInt8) : unquoteR l = ([], 6) ∨ ∃ c, unquoteR l = (c, 0) ∧ textB c = true ∧ quoteL c = l := by
  unfold unquoteR
  split
  · exact .inl rfl
  · split
    · rename_i h
      rw [Bool.and_eq_true, beq_iff_eq] at h
      exact .inr ⟨_, rfl, h.1, h.2⟩
    · exact .inl rfl
theorem ba_size' (l : List UInt8) : (⟨l.toArray⟩ : ByteArray).size = l.length := by show l.toArray.size = _; simp

set_option maxHeartbeats 2000000 in
theorem quotes_walk (s : ByteArray) (w : World) (he : Env w) (hs : s.size ≤ maxLen) : Calls Tryz.prog 9 #[.string s] w fun e w' => e = .returned (.bool true) ∧ Below w.heap.size w w' := by
  have c0 := fun W (hE : Env W) => shown_any W hE
  have C0 := Lib.hid c0
  have HE := Lib.hid he
  by_cases hl : 20000 < s.size
  · have hl' : (20000 : Int) < s.size := by omega
    clear c0 he
    go_enter Tryz.func9, Tryz.ntmps9
    go_wp2_with (go_at_call 14; refine (C0.out _ HE.out).mono ?_; rintro e w' ⟨rfl, hb⟩)
    go_ret
    exact ⟨rfl, hb⟩
  · have hl' : ¬ (20000 : Int) < s.size := by omega
    have hls : s.data.toList.length ≤ 20000 := by rw [size_list]; omega
    have c1 := fun W (hE : Env W) => quote_any s W hE hs
    have c2 := fun W => rquote_any s W hs
    have c3 := fun W (hE : Env W) => unquote_any s W hE (by omega)
    have c4 := fun W => runquote_any s W (by omega)
    unfold RQPost at c2 c4
    have es : (⟨s.data.toList.toArray⟩ : ByteArray) = s := ba_eq (by simp)
    have c5 : textB s.data.toList = true → ∀ W, Env W → Calls Tryz.prog 34 #[.string ⟨(quoteL s.data.toList).toArray⟩] W fun e w' => e = .returned (.tuple #[.string s, .int .i64 0]) ∧ Below W.heap.size W w' := by
      intro ht W hE
      have hql : (quoteL s.data.toList).length ≤ 40002 := by have := dbl_length s.data.toList; simp [quoteL]; omega
      have := unquote_any ⟨(quoteL s.data.toList).toArray⟩ W hE (by rw [ba_size']; omega)
      rw [show (⟨(quoteL s.data.toList).toArray⟩ : ByteArray).data.toList = quoteL s.data.toList by simp, unquote_quote _ ht] at this
      simp only [es] at this
      exact this
    have c6 : ∀ c, textB c = true → quoteL c = s.data.toList → ∀ W, Env W → Calls Tryz.prog 32 #[.string ⟨c.toArray⟩] W fun e w' => e = .returned (.tuple #[.string s, .int .i64 0]) ∧ Below W.heap.size W w' := by
      intro c ht hq W hE
      have hcl : c.length ≤ 200 := by simp only [textB, Bool.and_eq_true, decide_eq_true_eq] at ht; exact ht.1
      have := quote_any ⟨c.toArray⟩ W hE (by rw [ba_size']; unfold maxLen; omega)
      rw [show (⟨c.toArray⟩ : ByteArray).data.toList = c by simp, quoteR, if_pos ht, hq] at this
      simp only [es] at this
      exact this
    have hE : quoteR s.data.toList = if textB s.data.toList then (quoteL s.data.toList, 0) else ([], 2) := rfl
    rw [hE] at c1 c2
    have hG := unquoteR_ways s.data.toList
    have C5 := Lib.hid c5; have C6 := Lib.hid c6
    clear c0 he c5 c6 es hE hls
    generalize unquoteR s.data.toList = u at c3 c4 hG
    generalize textB s.data.toList = t at c1 c2 C5
    generalize quoteL s.data.toList = q at c1 c2 C5
    generalize s.data.toList = l at C6 hG
    rcases hG with rfl | ⟨c, rfl, hc1, hc2⟩
    · cases t
      · simp only [Bool.false_eq_true, if_false, if_true] at c1 c2 c3 c4
        have C1 := Lib.hid c1; have C2 := Lib.hid c2; have C3 := Lib.hid c3; have C4 := Lib.hid c4
        clear c1 c2 c3 c4
        go_enter Tryz.func9, Tryz.ntmps9
        go_wp2_with (first
          | (go_at_call 32; refine (C1.out _ HE.out).mono ?_; rintro e w1 ⟨rfl, hb1⟩; have HB1 := Lib.hid hb1; clear hb1 C1)
          | (go_at_call 33; refine (C2.out _).mono ?_; rintro e w' ⟨rfl, rfl⟩; clear C2)
          | (go_at_call 34; refine (C3.out _ (HE.out.below HB1.out)).mono ?_; rintro e w2 ⟨rfl, hb2⟩; have HB2 := Lib.hid (HB1.out.trans (hb2.mono HB1.out.size)); clear hb2 C3)
          | (go_at_call 35; refine (C4.out _).mono ?_; rintro e w' ⟨rfl, rfl⟩; clear C4)
          | (go_at_call 14; refine (C0.out _ (HE.out.below HB2.out)).mono ?_; rintro e w7 ⟨rfl, hb7⟩; have HB7 := Lib.hid (HB2.out.trans (hb7.mono HB2.out.size)); clear hb7))
        go_ret
        exact ⟨rfl, HB7.out⟩
      · simp only [Bool.false_eq_true, if_false, if_true] at c1 c2 c3 c4
        have C5' := Lib.hid (C5.out rfl); clear C5
        have C1 := Lib.hid c1; have C2 := Lib.hid c2; have C3 := Lib.hid c3; have C4 := Lib.hid c4
        clear c1 c2 c3 c4
        go_enter Tryz.func9, Tryz.ntmps9
        go_wp2_with (first
          | (go_at_call 32; refine (C1.out _ HE.out).mono ?_; rintro e w1 ⟨rfl, hb1⟩; have HB1 := Lib.hid hb1; clear hb1 C1)
          | (go_at_call 33; refine (C2.out _).mono ?_; rintro e w' ⟨rfl, rfl⟩; clear C2)
          | (go_at_call 34; refine (C3.out _ (HE.out.below HB1.out)).mono ?_; rintro e w2 ⟨rfl, hb2⟩; have HB2 := Lib.hid (HB1.out.trans (hb2.mono HB1.out.size)); clear hb2 C3)
          | (go_at_call 35; refine (C4.out _).mono ?_; rintro e w' ⟨rfl, rfl⟩; clear C4)
          | (go_at_call 34; refine (C5'.out _ (HE.out.below HB2.out)).mono ?_; rintro e w3 ⟨rfl, hb3⟩; have HB3 := Lib.hid (HB2.out.trans (hb3.mono HB2.out.size)); clear hb3)
          | (go_at_call 14; refine (C0.out _ (HE.out.below HB3.out)).mono ?_; rintro e w7 ⟨rfl, hb7⟩; have HB7 := Lib.hid (HB3.out.trans (hb7.mono HB3.out.size)); clear hb7))
        go_ret
        exact ⟨rfl, HB7.out⟩
    · have C6' := Lib.hid (C6.out c hc1 hc2); clear C6 hc1 hc2
      cases t
      · simp only [Bool.false_eq_true, if_false, if_true] at c1 c2 c3 c4
        have C1 := Lib.hid c1; have C2 := Lib.hid c2; have C3 := Lib.hid c3; have C4 := Lib.hid c4
        clear c1 c2 c3 c4
        go_enter Tryz.func9, Tryz.ntmps9
        go_wp2_with (first
          | (go_at_call 32; refine (C1.out _ HE.out).mono ?_; rintro e w1 ⟨rfl, hb1⟩; have HB1 := Lib.hid hb1; clear hb1 C1)
          | (go_at_call 33; refine (C2.out _).mono ?_; rintro e w' ⟨rfl, rfl⟩; clear C2)
          | (go_at_call 34; refine (C3.out _ (HE.out.below HB1.out)).mono ?_; rintro e w2 ⟨rfl, hb2⟩; have HB2 := Lib.hid (HB1.out.trans (hb2.mono HB1.out.size)); clear hb2 C3)
          | (go_at_call 35; refine (C4.out _).mono ?_; rintro e w' ⟨rfl, rfl⟩; clear C4)
          | (go_at_call 32; refine (C6'.out _ (HE.out.below HB2.out)).mono ?_; rintro e w4 ⟨rfl, hb4⟩; have HB4 := Lib.hid (HB2.out.trans (hb4.mono HB2.out.size)); clear hb4)
          | (go_at_call 14; refine (C0.out _ (HE.out.below HB4.out)).mono ?_; rintro e w7 ⟨rfl, hb7⟩; have HB7 := Lib.hid (HB4.out.trans (hb7.mono HB4.out.size)); clear hb7))
        go_ret
        exact ⟨rfl, HB7.out⟩
      · simp only [Bool.false_eq_true, if_false, if_true] at c1 c2 c3 c4
        have C5' := Lib.hid (C5.out rfl); clear C5
        have C1 := Lib.hid c1; have C2 := Lib.hid c2; have C3 := Lib.hid c3; have C4 := Lib.hid c4
        clear c1 c2 c3 c4
        go_enter Tryz.func9, Tryz.ntmps9
        go_wp2_with (first
          | (go_at_call 32; refine (C1.out _ HE.out).mono ?_; rintro e w1 ⟨rfl, hb1⟩; have HB1 := Lib.hid hb1; clear hb1 C1)
          | (go_at_call 33; refine (C2.out _).mono ?_; rintro e w' ⟨rfl, rfl⟩; clear C2)
          | (go_at_call 34; refine (C3.out _ (HE.out.below HB1.out)).mono ?_; rintro e w2 ⟨rfl, hb2⟩; have HB2 := Lib.hid (HB1.out.trans (hb2.mono HB1.out.size)); clear hb2 C3)
          | (go_at_call 35; refine (C4.out _).mono ?_; rintro e w' ⟨rfl, rfl⟩; clear C4)
          | (go_at_call 34; refine (C5'.out _ (HE.out.below HB2.out)).mono ?_; rintro e w3 ⟨rfl, hb3⟩; have HB3 := Lib.hid (HB2.out.trans (hb3.mono HB2.out.size)); clear hb3)
          | (go_at_call 32; refine (C6'.out _ (HE.out.below HB3.out)).mono ?_; rintro e w4 ⟨rfl, hb4⟩; have HB4 := Lib.hid (HB3.out.trans (hb4.mono HB3.out.size)); clear hb4)
          | (go_at_call 14; refine (C0.out _ (HE.out.below HB4.out)).mono ?_; rintro e w7 ⟨rfl, hb7⟩; have HB7 := Lib.hid (HB4.out.trans (hb7.mono HB4.out.size)); clear hb7))
        go_ret
        exact ⟨rfl, HB7.out⟩
end Go.Proofs.YtboigkmaccdkpaaGreatDoor
