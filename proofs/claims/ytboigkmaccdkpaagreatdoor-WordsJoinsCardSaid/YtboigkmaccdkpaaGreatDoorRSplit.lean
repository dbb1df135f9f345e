/- The reference's Split. -/
import Derived.Test.YtboigkmaccdkpaaGreatDoorREnd
import Derived.Test.YtboigkmaccdkpaaGreatDoorWQuotes
import Derived.Test.YtboigkmaccdkpaaGreatDoorFields
import Derived.Deep.DeepCutAuto
namespace Go.Proofs.YtboigkmaccdkpaaGreatDoor
open Go.RowKit Go.Shelf

def splitA (l : List UInt8) : Option (List Fld) := if l = [] then some [] else splitF (l.length + 1) l
theorem splitR_A (l : List UInt8) : splitR l = if 4096 < l.length then (([] : List Fld), (3 : Int)) else match splitA l with
      | none => ([], 6)
      | some fs => if 64 < fs.length then ([], 3) else (fs, 0) := by
  unfold splitR splitA
  by_cases h0 : l = []
  · subst h0; rfl
  · rw [if_neg h0, if_neg h0]; split <;> rfl
/-- The field that begins at k, as fieldX has it. -/
theorem fieldX_quoted (s x : ByteArray) (k : Nat) (hk : k < s.size) (h : s[k] = 34) (hx : x.data.toList = (s.data.toList.drop k).take (endL (s.data.toList.drop k))) :
    fieldX (s.data.toList.drop k) = ((unquoteR x.data.toList).2 == 0, true, (unquoteR x.data.toList).1) := by
  unfold fieldX; rw [if_pos (by rw [drop_at s k hk, h]; rfl), hx]
theorem fieldX_bare (s x : ByteArray) (k : Nat) (hk : k < s.size) (h : s[k] ≠ 34) (hx : x.data.toList = (s.data.toList.drop k).take (endL (s.data.toList.drop k))) :
    fieldX (s.data.toList.drop k) = (bareB x.data.toList, false, x.data.toList) := by
  unfold fieldX; rw [if_neg (by rw [drop_at s k hk]; simpa using h), hx]
theorem writeR_unq {l : List UInt8} (h : (unquoteR l).2 = 0) : (writeR (true, (unquoteR l).1)).2 = true := by
  unfold writeR; simp only [if_true]; rw [quoteR_of (unquoteR_ok h).1]; rfl
theorem behind_of (s : ByteArray) (k e : Nat) (hk : k < s.size) (he : e = endL (s.data.toList.drop k)) :
    behind (s.data.toList.drop k) = (decide (k + e = s.size) || (if h : k + e < s.size then decide (s[k + e] = 32) && decide (k + e + 1 ≠ s.size) else false)) := by
  have hl : (s.data.toList.drop k).length = s.size - k := by rw [List.length_drop, size_list]
  have hle := endL_le (s.data.toList.drop k)
  unfold behind
  rw [← he, hl, List.getElem?_drop]
  rw [← he, hl] at hle
  by_cases h1 : k + e = s.size
  · have : (e == s.size - k) = true := by rw [beq_iff_eq]; omega
    rw [this]; simp [h1]
  · have h2 : k + e < s.size := by omega
    have : (e == s.size - k) = false := by rw [beq_eq_false_iff_ne]; omega
    rw [this, dif_pos h2, List.getElem?_eq_getElem (by rw [size_list]; exact h2)]
    have h3 : (e + 1 != s.size - k) = decide (k + e + 1 ≠ s.size) := by
      by_cases h : k + e + 1 = s.size
      · have : (e + 1 != s.size - k) = false := by simp; omega
        rw [this]; simp [h]
      · have : (e + 1 != s.size - k) = true := by simp; omega
        rw [this]; simp [h]
    rw [h3, decide_eq_false h1]
    have h4 : ∀ c : UInt8, (some c == some 32) = decide (c = 32) := by intro c; by_cases h : c = 32 <;> simp [h]
    exact congrArg (fun b => false || (b && decide (k + e + 1 ≠ s.size))) (h4 _)
def RSplitPost (s : ByteArray) (w : World) (e : Ending) (w' : World) : Prop :=
  ∃ v, e = .returned (.tuple #[v, .int .i64 (splitR s.data.toList).2]) ∧ w'.ownsRow w.heap.size 65 2 v (splitR s.data.toList).1.length (fldCells (splitR s.data.toList).1) ∧ Below w.heap.size w w'
theorem rsplitPost_mk {s : ByteArray} {w w' : World} {v : Value} {fs : List Fld} {er : Int} (h : splitR s.data.toList = (fs, er)) (ho : w'.ownsRow w.heap.size 65 2 v fs.length (fldCells fs)) (hb : Below w.heap.size w w') :
    RSplitPost s w (.returned (.tuple #[v, .int .i64 er])) w' := ⟨v, by rw [h], by rw [h]; exact ho, hb⟩
/-- What holds at the head of a round. -/
def RSplitInv (s : ByteArray) (w : World) (n : Nat) (v iv : Value) (wr : World) : Prop :=
  ∃ (acc : List Fld) (k : Nat), wr.ownsRow w.heap.size 65 2 v acc.length (fldCells acc) ∧ iv = .int .i64 k ∧ Below w.heap.size w wr ∧
    restF acc (decide (k < s.size)) n (s.data.toList.drop k) = splitA s.data.toList ∧ acc.length ≤ k ∧ k ≤ s.size + 1 ∧ s.size < n + k
theorem unq_len (l : List UInt8) : (unquoteR l).1.length ≤ l.length := by
  by_cases h : (unquoteR l).2 = 0
  · have := (unquoteR_ok h).2
    conv => rhs; rw [← this]
    have h2 : ∀ t : List UInt8, t.length ≤ (dbl t).length := by
      intro t
      induction t with
      | nil => simp
      | cons c r ih => rw [dbl]; split <;> simp <;> omega
    have := h2 (unquoteR l).1
    simp [quoteL]; omega
  · unfold unquoteR at h ⊢
    split
    · simp
    · rename_i h2
      rw [if_neg h2] at h
      split
      · rename_i h3; rw [if_pos h3] at h; exact absurd rfl h
      · simp

set_option maxHeartbeats 2000000 in
set_option maxRecDepth 100000 in
theorem rsplit_in (s : ByteArray) (w : World) (hs : s.size ≤ 4096) :
    Calls Tryz.prog 37 #[.string s] w (RSplitPost s w) := by
  obtain ⟨i0, hi, hz0, hz1, hz2⟩ := info_parts info_rfield
  have er := splitR_A s.data.toList
  rw [size_list, if_neg (by omega)] at er
  have h96 : ¬ (4096 : Int) < s.size := by omega
  have HI := Lib.hid hi; have HZ0 := Lib.hid hz0; have HZ1 := Lib.hid hz1; have HZ2 := Lib.hid hz2; have ER := Lib.hid er
  clear er hi hz0 hz1 hz2
  go_enter Tryz.func37, Tryz.ntmps37
  go_wp2_with fail
  go_loopg [4, 5] (s.size + 1) (fun n v iv wr => RSplitInv s w n v iv wr)
  case atStart =>
    refine ⟨[], 0, World.ownsRow_nil _ _ _ _, by go_num, Below.refl _ _, ?_, Nat.le_refl _, by omega, by omega⟩
    unfold splitA
    by_cases h0 : 0 < s.size
    · rw [if_neg (by intro e; rw [← size_list, e] at h0; exact absurd h0 (by decide)), size_list, decide_eq_true h0]
      unfold restF; rw [if_pos rfl]; simp
    · rw [if_pos (List.length_eq_zero_iff.1 (by rw [size_list]; omega)), decide_eq_false h0]; rfl
  case round =>
    obtain ⟨acc, k, hown, rfl, hbw, hfin, hak, hk1, hfu⟩ := hrel
    by_cases hlt : k < s.size
    · obtain ⟨n', rfl⟩ : ∃ n', gk = n' + 1 := ⟨gk - 1, by omega⟩
      rw [decide_eq_true hlt, ref_step acc n' _ (by intro e; have := congrArg List.length e; simp at this; omega) (by omega)] at hfin
      have hle := endL_le (s.data.toList.drop k)
      rw [List.length_drop, size_list] at hle hfin
      rw [List.drop_drop] at hfin
      have cE := fun W => rend_any s k W hs hlt
      unfold EndPost at cE
      have hxx : (s.extract k (k + endL (s.data.toList.drop k))).data.toList = (s.data.toList.drop k).take (endL (s.data.toList.drop k)) := by
        rw [Lib.extract_data]; congr 1; omega
      have hq := fun h => fieldX_quoted s _ k hlt h hxx
      have hb := fun h => fieldX_bare s _ k hlt h hxx
      have hbe := behind_of s k _ hlt rfl
      have hxl : (s.extract k (k + endL (s.data.toList.drop k))).size ≤ 4096 := by rw [← size_list, hxx, List.length_take, List.length_drop, size_list]; omega
      generalize endL (s.data.toList.drop k) = e at hle hfin cE hxx hq hb hbe hxl
      generalize behind (s.data.toList.drop k) = bh at hfin hbe
      clear hxx
      generalize fieldX (s.data.toList.drop k) = fx at hfin hq hb
      have hto : k + e ≤ s.size := by omega
      generalize hx : s.extract k (k + e) = x at hq hb hxl
      generalize ht : k + e = z at hto cE hbe hx hfin
      have hkt : k ≤ z := by omega
      have he' : e = z - k := by omega
      clear ht hle
      subst he'
      have CE := Lib.hid cE; have HFIN := Lib.hid hfin; have HBW := Lib.hid hbw; have HBE := Lib.hid hbe; have HOWN := Lib.hid hown
      have HQ := Lib.hid hq; have HB := Lib.hid hb
      have b1 : (k : Int) ≤ z := by omega
      have b2 : (z : Int) ≤ s.size := by omega
      clear cE hfin hbw hbe hown hq hb
      go_upto_if 28 with (go_at_call 67; refine (CE.out _).mono ?_; rintro e w' ⟨rfl, rfl⟩)
      go_cut [6, 7, 8, 9] (fun a b _ _ wx => a = .int .i64 z ∧ b = .pointer (some ⟨wr.heap.size, 0, none⟩) ∧ ∃ (q : Bool) (X : List UInt8), wx.cell? ⟨wr.heap.size, 0, none⟩ = some (.bool q) ∧ wx.cell? ⟨wr.heap.size, 1, none⟩ = some (.string ⟨X.toArray⟩) ∧ wx.frozen? ⟨wr.heap.size, 0, none⟩ = false ∧ wx.frozen? ⟨wr.heap.size, 1, none⟩ = false ∧ wr.heap.size < wx.heap.size ∧ Below wr.heap.size wr wx ∧ X.length ≤ 4096 ∧ Hid (fx = ((writeR (q, X)).2, q, X)))
      case first =>
        by_cases h34 : s[k] = 34
        · have h0 : ((s[k].toNat : Int) == 34) = true := by rw [h34]; rfl
          have hX := HQ.out h34
          have cU := fun W => runquote_any x W (by omega)
          have hul := unq_len x.data.toList
          rw [size_list] at hul
          have hwr := @writeR_unq x.data.toList
          generalize unquoteR x.data.toList = r at hX cU hul hwr
          obtain ⟨X, er⟩ := r
          unfold RQPost at cU
          simp only at hX cU hul hwr
          have CU := Lib.hid cU; have HWR := Lib.hid hwr
          clear cU hwr h34
          by_cases hz : er = 0
          · subst hz
            have hX' : fx = ((writeR (true, X)).2, true, X) := by rw [hX, HWR.out rfl]; rfl
            have HX := Lib.hid hX'; clear hX hX'
            go_wp2_with (go_at_call 35; refine (CU.out _).mono ?_; rintro e w' ⟨rfl, rfl⟩)
            go_meet
            refine ⟨rfl, rfl, true, X, ?_, ?_, ?_, ?_, ?_, ?_, by omega, HX⟩
            · exact two0 wr _ _ _
            · exact two1 wr _ _ _
            · exact twof0 wr _ _ _
            · exact twof1 wr _ _ _
            · simp
            · exact (Below.refl _ _).alloc (Nat.le_refl _) _
          · have hzz : (er == 0) = false := beq_eq_false_iff_ne.2 hz
            have hzn : (er != 0) = true := by rw [bne, hzz]; rfl
            have hX' : fx.1 = false := by rw [hX]; exact hzz
            have HX := Lib.hid hX'; clear hX hX' hz
            go_wp2_with (go_at_call 35; refine (CU.out _).mono ?_; rintro e w' ⟨rfl, rfl⟩)
            go_ret2
            refine rsplitPost_mk (fs := []) (er := 6) (by rw [ER.out, ← HFIN.out, HX.out]; rfl) (World.ownsRow_nil _ _ _ _) ?_
            exact HBW.out.alloc HBW.out.size _
        · have h0 : ((s[k].toNat : Int) == 34) = false := byte_ne _ 34 (by omega) h34
          have hX := HB.out h34
          have HX := Lib.hid hX; clear hX h34
          go_wp2_with fail
          go_meet
          refine ⟨rfl, rfl, false, x.data.toList, ?_, ?_, ?_, ?_, ?_, ?_, by rw [size_list]; exact hxl, HX⟩
          · exact two0 wr _ _ _
          · rw [ba_list]; exact two1 wr _ _ _
          · exact twof0 wr _ _ _
          · exact twof1 wr _ _ _
          · simp
          · exact (Below.refl _ _).alloc (Nat.le_refl _) _
      case rest =>
        obtain ⟨rfl, rfl, q, X, c0, c1, q0, q1, hz, hbx, hXl, HX⟩ := hcut
        have cR := fun W => rright_any q ⟨X.toArray⟩ W (by rw [ba_size]; omega)
        rw [show (⟨X.toArray⟩ : ByteArray).data.toList = X by simp] at cR
        unfold RightPost at cR
        generalize (writeR (q, X)).2 = b at cR HX
        have CR := Lib.hid cR; clear cR
        cases b
        · have hn : splitR s.data.toList = ([], 6) := by rw [ER.out, ← HFIN.out, HX.out]; rfl
          have HN := Lib.hid hn; clear hn
          go_wp2_with (first
            | (go_at_call 68; refine (CR.out _).mono ?_; rintro e w2 ⟨rfl, hb2⟩; have HB2 := Lib.hid hb2; clear hb2))
          go_ret2
          refine rsplitPost_mk (fs := []) (er := 6) HN.out (World.ownsRow_nil _ _ _ _) ?_
          exact (HBW.out.trans (hbx.mono HBW.out.size)).trans (HB2.out.mono (Nat.le_trans HBW.out.size hbx.size))
        · by_cases hzs : z = s.size
          · have hzl : ¬ (z : Int) < s.size := by omega
            have hf2 : restF (acc ++ [(q, X)]) (decide (z + 1 < s.size)) n' (s.data.toList.drop (z + 1)) = splitA s.data.toList := by
              rw [← HFIN.out, HX.out, HBE.out, decide_eq_true hzs, decide_eq_false (show ¬ z + 1 < s.size by omega), decide_eq_false (show ¬ z - k < s.size - k by omega)]; rfl
            have HF2 := Lib.hid hf2; clear hf2
            have h1c := fld_one q X
            have H1C := Lib.hid h1c
            have hb1 : acc.length + 1 ≤ maxLen := by unfold maxLen; omega
            have hb2 : (acc.length + 1) * 24 ≤ 140737488355328 := by omega
            have HL1 := Lib.hid hb1; have HL2 := Lib.hid hb2; clear hb1 hb2 h1c
            go_wp2_with (first
              | (go_at_call 68; refine (CR.out _).mono ?_; rintro e w2 ⟨rfl, hb2⟩; obtain ⟨hz2, d0, d1, p0, p1⟩ := two_later hz hb2 c0 c1 q0 q1; have HB2 := Lib.hid hb2; have hown2 := ownsRow_below (ownsRow_below HOWN.out hbx) hb2; have HOWN2 := Lib.hid hown2; have HW2 : Hid (w.heap.size ≤ w2.heap.size) := Lib.hid (Nat.le_trans HBW.out.size (Nat.le_trans hbx.size hb2.size)); clear hb2 hown2)
              | (at_builtin; refine wpList_append_own _ rfl _ _ 48 rfl w.heap.size 65 i0 (.agg #[.bool false, .string ⟨#[]⟩]) 2 24 Tryz.underlying48 HI.out HZ0.out HZ1.out HZ2.out rfl (by decide) _ _ _ rfl (ownsRow_below HOWN2.out ((Below.refl _ _).alloc (Nat.le_refl _) _)) ⟨w2.heap.size, 0, none⟩ 1 1 [.bool q, .string ⟨X.toArray⟩] rfl rfl (cell_two_at _ _ _ _ _ rfl) H1C.out HL1.out HL2.out (by have := HW2.out; simp; omega) ?_; intro v3 w3 hown3 hgrow3 hnil3))
            go_roundg n'
            case measure => omega
            case rel =>
              refine ⟨acc ++ [(q, X)], z + 1, ?_, by go_num, ?_, HF2.out, by simp; omega, by omega, by omega⟩
              · rw [fldCells_snoc, List.length_append]; exact hown3
              · have hb := (HBW.out.trans (hbx.mono HBW.out.size)).trans (HB2.out.mono (Nat.le_trans HBW.out.size hbx.size))
                exact (hb.alloc HW2.out _).grown hgrow3 (by have := HW2.out; simp; omega) (own_block HOWN2.out)
          · have hzl : z < s.size := by omega
            have hzi : (z : Int) < s.size := by omega
            have hbe := HBE.out
            rw [dif_pos hzl, decide_eq_false hzs] at hbe
            by_cases h32 : s[z] = 32
            · have h3 : ((s[z].toNat : Int) != 32) = false := by rw [h32]; rfl
              rw [decide_eq_true h32] at hbe
              by_cases hz1 : z + 1 = s.size
              · have hz1' : ((z : Int) + 1 == (s.size : Int)) = true := beq_iff_eq.2 (by omega)
                have hn : splitR s.data.toList = ([], 6) := by
                  have hbf : bh = false := by rw [hbe]; simp [hz1]
                  rw [ER.out, ← HFIN.out, hbf, Bool.and_false]; rfl
                have HN := Lib.hid hn; clear hn hbe h32
                go_wp2_with (first
                  | (go_at_call 68; refine (CR.out _).mono ?_; rintro e w2 ⟨rfl, hb2⟩; have HB2 := Lib.hid hb2; clear hb2))
                go_ret2
                refine rsplitPost_mk (fs := []) (er := 6) HN.out (World.ownsRow_nil _ _ _ _) ?_
                exact (HBW.out.trans (hbx.mono HBW.out.size)).trans (HB2.out.mono (Nat.le_trans HBW.out.size hbx.size))
              · have hz1' : ((z : Int) + 1 == (s.size : Int)) = false := beq_eq_false_iff_ne.2 (by omega)
                have hf2 : restF (acc ++ [(q, X)]) (decide (z + 1 < s.size)) n' (s.data.toList.drop (z + 1)) = splitA s.data.toList := by
                  have hbt : bh = true := by rw [hbe]; simp [hz1]
                  rw [← HFIN.out, HX.out, hbt, decide_eq_true (show z + 1 < s.size by omega), decide_eq_true (show z - k < s.size - k by omega), show k + (z - k + 1) = z + 1 by omega]; rfl
                have HF2 := Lib.hid hf2; clear hf2 hbe h32
                have h1c := fld_one q X
                have H1C := Lib.hid h1c
                have hb1 : acc.length + 1 ≤ maxLen := by unfold maxLen; omega
                have hb2 : (acc.length + 1) * 24 ≤ 140737488355328 := by omega
                have HL1 := Lib.hid hb1; have HL2 := Lib.hid hb2; clear hb1 hb2 h1c
                go_wp2_with (first
                  | (go_at_call 68; refine (CR.out _).mono ?_; rintro e w2 ⟨rfl, hb2⟩; obtain ⟨hz2, d0, d1, p0, p1⟩ := two_later hz hb2 c0 c1 q0 q1; have HB2 := Lib.hid hb2; have hown2 := ownsRow_below (ownsRow_below HOWN.out hbx) hb2; have HOWN2 := Lib.hid hown2; have HW2 : Hid (w.heap.size ≤ w2.heap.size) := Lib.hid (Nat.le_trans HBW.out.size (Nat.le_trans hbx.size hb2.size)); clear hb2 hown2)
                  | (at_builtin; refine wpList_append_own _ rfl _ _ 48 rfl w.heap.size 65 i0 (.agg #[.bool false, .string ⟨#[]⟩]) 2 24 Tryz.underlying48 HI.out HZ0.out HZ1.out HZ2.out rfl (by decide) _ _ _ rfl (ownsRow_below HOWN2.out ((Below.refl _ _).alloc (Nat.le_refl _) _)) ⟨w2.heap.size, 0, none⟩ 1 1 [.bool q, .string ⟨X.toArray⟩] rfl rfl (cell_two_at _ _ _ _ _ rfl) H1C.out HL1.out HL2.out (by have := HW2.out; simp; omega) ?_; intro v3 w3 hown3 hgrow3 hnil3))
                go_roundg n'
                case measure => omega
                case rel =>
                  refine ⟨acc ++ [(q, X)], z + 1, ?_, by go_num, ?_, HF2.out, by simp; omega, by omega, by omega⟩
                  · rw [fldCells_snoc, List.length_append]; exact hown3
                  · have hb := (HBW.out.trans (hbx.mono HBW.out.size)).trans (HB2.out.mono (Nat.le_trans HBW.out.size hbx.size))
                    exact (hb.alloc HW2.out _).grown hgrow3 (by have := HW2.out; simp; omega) (own_block HOWN2.out)
            · have h3 : ((s[z].toNat : Int) != 32) = true := by
                have := byte_ne _ 32 (by omega) h32
                rw [beq_eq_false_iff_ne] at this; rw [bne_iff_ne]; exact this
              have hn : splitR s.data.toList = ([], 6) := by
                have hbf : bh = false := by rw [hbe, decide_eq_false h32]; rfl
                rw [ER.out, ← HFIN.out, hbf, Bool.and_false]; rfl
              have HN := Lib.hid hn; clear hn hbe h32
              go_wp2_with (first
                | (go_at_call 68; refine (CR.out _).mono ?_; rintro e w2 ⟨rfl, hb2⟩; have HB2 := Lib.hid hb2; clear hb2))
              go_ret2
              refine rsplitPost_mk (fs := []) (er := 6) HN.out (World.ownsRow_nil _ _ _ _) ?_
              exact (HBW.out.trans (hbx.mono HBW.out.size)).trans (HB2.out.mono (Nat.le_trans HBW.out.size hbx.size))
    · have hend : restF acc false gk (s.data.toList.drop k) = splitA s.data.toList := by rw [← hfin, decide_eq_false hlt]
      have hend' : splitA s.data.toList = some acc := hend.symm
      have HEND := Lib.hid hend'
      have HB := Lib.hid hbw; clear hfin hend hend' hfu hbw
      have hlt' : ¬ (k : Int) < s.size := by omega
      by_cases h64 : 64 < acc.length
      · have h64' : (64 : Int) < acc.length := by omega
        rcases hown with ⟨ho1, ⟨rfl, hn⟩ | ⟨g, cap, cur, rfl, ho2⟩⟩
        · omega
        · clear ho1 ho2
          go_wp2_with fail
          go_ret2
          exact rsplitPost_mk (by rw [ER.out, HEND.out]; simp only; rw [if_pos h64]) (World.ownsRow_nil _ _ _ _) HB.out
      · have h64' : ¬ (64 : Int) < acc.length := by omega
        rcases hown with ⟨ho1, ⟨rfl, hn⟩ | ⟨g, cap, cur, rfl, ho2⟩⟩
        · have HO : Hid (wr.ownsRow w.heap.size 65 2 (.slice none 0 0) acc.length (fldCells acc)) := Lib.hid ⟨ho1, .inl ⟨rfl, hn⟩⟩
          clear ho1 hn
          go_wp2_with fail
          go_ret2
          exact rsplitPost_mk (by rw [ER.out, HEND.out]; simp only; rw [if_neg h64]) HO.out HB.out
        · have HO : Hid (wr.ownsRow w.heap.size 65 2 (.slice (some ⟨g, 0, none⟩) acc.length cap) acc.length (fldCells acc)) := Lib.hid ⟨ho1, .inr ⟨g, cap, cur, rfl, ho2⟩⟩
          clear ho1 ho2
          go_wp2_with fail
          go_ret2
          exact rsplitPost_mk (by rw [ER.out, HEND.out]; simp only; rw [if_neg h64]) HO.out HB.out
end Go.Proofs.YtboigkmaccdkpaaGreatDoor
