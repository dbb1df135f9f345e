/- Package words: bare, Quote, Unquote (and Go's strings.Clone): what each returns. -/
import Derived.Test.YtgldpdbdgjehkaaGreatDoorTexts
import Derived.Test.YtgldpdbdgjehkaaGreatDoorQMath
namespace Go.Proofs.YtgldpdbdgjehkaaGreatDoor
open Go.RowKit

theorem ba_eq {a b : ByteArray} (h : a.data.toList = b.data.toList) : a = b := by
  obtain ⟨⟨x⟩⟩ := a; obtain ⟨⟨y⟩⟩ := b
  simp only at h; rw [h]
theorem ba_list (s : ByteArray) : (⟨s.data.toList.toArray⟩ : ByteArray) = s := ba_eq (by simp)

theorem clone_any (s : ByteArray) (w : World) (hs : s.size ≤ 281474976710656) : Calls Tryz.prog 64 #[.string s] w fun e w' => e = .returned (.string s) ∧ Below w.heap.size w w' := by
  have c := Tryz.stringslite_Clone s w hs
  have C := Lib.hid c; clear c
  go_enter Tryz.func64, Tryz.ntmps64
  go_wp2_with (go_at_call 85; refine (C.out).mono ?_; rintro e w' ⟨rfl, hb⟩)
  go_ret
  exact ⟨rfl, hb⟩

/-- A bare field. -/
def bareB (l : List UInt8) : Bool := !l.isEmpty && textB l && !Lib.containsAny l [32, 34]
theorem textB_parts {l : List UInt8} (h : textB l = true) : l.length ≤ 200 ∧ ∀ (j : Nat) b, l[j]? = some b → 32 ≤ b.toNat ∧ b.toNat ≤ 126 := by
  simp only [textB, Bool.and_eq_true, decide_eq_true_eq, allP, List.all_eq_true] at h
  refine ⟨h.1, fun j b hj => ?_⟩
  have := h.2 b (List.mem_of_getElem? hj)
  simp [isPrintable] at this
  omega
theorem bare_any (s : ByteArray) (w : World) (hs : s.size ≤ maxLen) : Calls Tryz.prog 88 #[.string s] w fun e w' => e = .returned (.bool (bareB s.data.toList)) ∧ Below w.heap.size w w' := by
  by_cases h0 : s.size = 0
  · obtain rfl : s = ⟨#[]⟩ := by obtain ⟨⟨l⟩⟩ := s; cases l with | nil => rfl | cons a b => exact absurd h0 (Nat.succ_ne_zero _)
    clear h0 hs
    go_enter Tryz.func88, Tryz.ntmps88
    go_wp2_with fail
    go_ret
    exact ⟨rfl, Below.refl _ _⟩
  · have hne : ¬ s.data.toList = [] := fun e => h0 (by rw [← size_list, e]; rfl)
    have e0 : s.data.toList.isEmpty = false := by simpa using hne
    have e1 : s.toList.isEmpty = false := by rw [Lib.toList_data]; exact e0
    have e2 : ¬ s.toList = [] := by rw [Lib.toList_data]; exact hne
    have c := fun W => text_any s W hs
    have hx := @textB_parts s.data.toList
    have eb : bareB s.data.toList = (textB s.data.toList && !Lib.containsAny s.data.toList [32, 34]) := by rw [bareB, e0]; rfl
    rw [eb]; clear eb hne e0
    cases ht : textB s.data.toList
    · rw [ht] at c
      have C := Lib.hid c; clear c hx ht
      go_enter Tryz.func88, Tryz.ntmps88
      go_wp2_with (go_at_call 17; refine (C.out _).mono ?_; rintro e w' ⟨rfl, rfl⟩)
      go_ret
      exact ⟨rfl, Below.refl _ _⟩
    · rw [ht] at c
      obtain ⟨hl, hch⟩ := hx ht
      rw [size_list] at hl
      have ca := fun W => Tryz.strings_ContainsAny_laid s ⟨#[32, 34]⟩ W (by omega) (by decide) (fun j b hj => by have := hch j b hj; omega) (by intro j b hj; rcases j with _ | _ | j <;> simp at hj <;> subst hj <;> decide)
      have C := Lib.hid c; have CA := Lib.hid ca; clear c ca hch ht hx
      go_enter Tryz.func88, Tryz.ntmps88
      go_wp2_with (first | (go_at_call 17; refine (C.out _).mono ?_; rintro e w' ⟨rfl, rfl⟩) | (go_at_call 111; refine (CA.out _).mono ?_; rintro e w' ⟨rfl, hb⟩))
      go_ret
      exact ⟨ret_bool (by simp), hb⟩

/-- The quotation of a string. -/
def quoteL (l : List UInt8) : List UInt8 := 34 :: dbl l ++ [34]
def quoteR (l : List UInt8) : List UInt8 × Int := if textB l then (quoteL l, 0) else ([], 2)
set_option maxHeartbeats 400000 in
theorem quote_any (s : ByteArray) (w : World) (he : Env w) (hs : s.size ≤ maxLen) : Calls Tryz.prog 32 #[.string s] w fun e w' => e = .returned (.tuple #[.string ⟨(quoteR s.data.toList).1.toArray⟩, .int .i64 (quoteR s.data.toList).2]) ∧ Below w.heap.size w w' := by
  have c := fun W => text_any s W hs
  unfold quoteR
  cases ht : textB s.data.toList
  · rw [ht] at c
    have C := Lib.hid c; clear c ht he
    go_enter Tryz.func32, Tryz.ntmps32
    go_wp2_with (go_at_call 17; refine (C.out _).mono ?_; rintro e w' ⟨rfl, rfl⟩)
    go_ret2
    exact ⟨rfl, Below.refl _ _⟩
  · rw [ht] at c
    obtain ⟨hl, hch⟩ := textB_parts ht
    rw [size_list] at hl
    obtain ⟨m, hm⟩ := he.maxlen
    have hcount := Lib.countB_le ⟨#[34]⟩ (by decide) s.size s (Nat.le_refl _)
    have cr := Tryz.strings_ReplaceAll s ⟨#[34]⟩ ⟨#[34, 34]⟩ m w (by omega) hm (by decide) (by show s.size + Lib.countB s ⟨#[34]⟩ * 2 ≤ _; omega)
    have hdl := dbl_length s.data.toList
    rw [size_list] at hdl
    replace cr := replaceAll_dbl s.data.toList ▸ cr
    have hfin : (⟨#[34]⟩ ++ ⟨(dbl s.data.toList).toArray⟩ ++ ⟨#[34]⟩ : ByteArray) = ⟨(quoteL s.data.toList).toArray⟩ := ba_eq (by simp [quoteL])
    have C := Lib.hid c; have CR := Lib.hid cr; have HF := Lib.hid hfin; clear c cr ht he hm hcount hch hfin
    go_enter Tryz.func32, Tryz.ntmps32
    go_wp2_with (first | (go_at_call 17; refine (C.out _).mono ?_; rintro e w' ⟨rfl, rfl⟩) | (go_at_call 63; refine (CR.out).mono ?_; rintro e w' ⟨rfl, hb⟩))
    go_ret2
    exact ⟨by rw [← HF.out]; rfl, hb⟩

/-- The string whose quotation l is. -/
def unquoteR (l : List UInt8) : List UInt8 × Int :=
  if l.length < 2 then ([], 6) else
  if textB (und ((l.drop 1).take (l.length - 1 - 1))) && (quoteL (und ((l.drop 1).take (l.length - 1 - 1))) == l) then (und ((l.drop 1).take (l.length - 1 - 1)), 0) else ([], 6)
theorem mid_list (s : ByteArray) : (s.extract 1 (s.size - 1)).data.toList = (s.data.toList.drop 1).take (s.size - 1 - 1) := Lib.extract_data s 1 (s.size - 1)
set_option maxHeartbeats 400000 in
theorem unquote_any (s : ByteArray) (w : World) (he : Env w) (hs : s.size < 4294967281) : Calls Tryz.prog 34 #[.string s] w fun e w' => e = .returned (.tuple #[.string ⟨(unquoteR s.data.toList).1.toArray⟩, .int .i64 (unquoteR s.data.toList).2]) ∧ Below w.heap.size w w' := by
  unfold unquoteR; rw [size_list]
  by_cases h2 : s.size < 2
  · rw [if_pos h2]; clear he
    go_enter Tryz.func34, Tryz.ntmps34
    go_wp2_with fail
    go_ret2
    exact ⟨rfl, Below.refl _ _⟩
  · rw [if_neg h2]
    obtain ⟨m, hm⟩ := he.maxlen
    have hmid := mid_list s
    have hms : (s.extract 1 (s.size - 1)).size ≤ s.size := by rw [ByteArray.size_extract]; omega
    have hcount := Lib.countB_le ⟨#[34, 34]⟩ (by decide) _ (s.extract 1 (s.size - 1)) (Nat.le_refl _)
    have cr := Tryz.strings_ReplaceAll (s.extract 1 (s.size - 1)) ⟨#[34, 34]⟩ ⟨#[34]⟩ m w (by omega) hm (by decide) (by show (s.extract 1 (s.size - 1)).size + Lib.countB _ ⟨#[34, 34]⟩ * 1 ≤ _; omega)
    replace cr := replaceAll_und _ ▸ cr
    rw [hmid] at cr
    have hul := und_length _ ((s.data.toList.drop 1).take (s.size - 1 - 1)) (Nat.le_refl _)
    have hdl : ((s.data.toList.drop 1).take (s.size - 1 - 1)).length ≤ s.size := by rw [← size_list]; simp; omega
    generalize und ((s.data.toList.drop 1).take (s.size - 1 - 1)) = t at cr hul ⊢
    have hts : (⟨t.toArray⟩ : ByteArray).size = t.length := by simp [ByteArray.size]
    have cq := fun W (hE : Env W) => quote_any ⟨t.toArray⟩ W hE (by rw [hts]; unfold maxLen; omega)
    have cc := fun W => clone_any ⟨t.toArray⟩ W (by rw [hts]; omega)
    rw [show ((⟨t.toArray⟩ : ByteArray).data.toList) = t by simp] at cq
    unfold quoteR at cq
    have HE := Lib.hid he; have CR := Lib.hid cr; have CC := Lib.hid cc
    clear he cr cc hm hcount hms hmid hul hdl hts
    cases htx : textB t
    · rw [htx] at cq
      have CQ := Lib.hid cq; clear cq htx
      go_enter Tryz.func34, Tryz.ntmps34
      go_wp2_with (first | (go_at_call 63; refine (CR.out).mono ?_; rintro e w1 ⟨rfl, hb⟩) | (go_at_call 32; refine (CQ.out _ (HE.out.below hb)).mono ?_; rintro e w2 ⟨rfl, hb2⟩))
      go_ret2
      exact ⟨rfl, hb.trans (hb2.mono hb.size)⟩
    · rw [htx] at cq
      simp only [if_true, Bool.true_and] at cq ⊢
      generalize hq : quoteL t = q at cq ⊢
      have CQ := Lib.hid cq; clear cq htx hq
      by_cases hqs : q = s.data.toList
      · have e1 : (⟨q.toArray⟩ : ByteArray) = s := ba_eq (by simpa using hqs)
        rw [e1] at CQ
        have e2 : (q == s.data.toList) = true := by simpa using hqs
        rw [e2, if_pos rfl]; clear hqs e1 e2
        go_enter Tryz.func34, Tryz.ntmps34
        go_wp2_with (first | (go_at_call 63; refine (CR.out).mono ?_; rintro e w1 ⟨rfl, hb⟩) | (go_at_call 32; refine (CQ.out _ (HE.out.below hb)).mono ?_; rintro e w2 ⟨rfl, hb2⟩) | (go_at_call 64; refine (CC.out _).mono ?_; rintro e w3 ⟨rfl, hb3⟩))
        go_ret2
        exact ⟨rfl, (hb.trans (hb2.mono hb.size)).trans (hb3.mono (Nat.le_trans hb.size hb2.size))⟩
      · have e2 : (q == s.data.toList) = false := by simpa using hqs
        rw [e2]
        simp only [Bool.false_eq_true, if_false]
        rw [← Lib.toList_data] at e2
        clear hqs
        go_enter Tryz.func34, Tryz.ntmps34
        go_wp2_with (first | (go_at_call 63; refine (CR.out).mono ?_; rintro e w1 ⟨rfl, hb⟩) | (go_at_call 32; refine (CQ.out _ (HE.out.below hb)).mono ?_; rintro e w2 ⟨rfl, hb2⟩) | (go_at_call 64; refine (CC.out _).mono ?_; rintro e w3 ⟨rfl, hb3⟩))
        go_ret2
        exact ⟨rfl, hb.trans (hb2.mono hb.size)⟩
end Go.Proofs.YtgldpdbdgjehkaaGreatDoor
