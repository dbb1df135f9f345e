/- What List and ParseList of the reference return at any list and text. -/
import Derived.Test.YtgldpdbdgjehkaaGreatDoorRTexts2
import Derived.Test.YtgldpdbdgjehkaaGreatDoorListNil
import Derived.Test.YtgldpdbdgjehkaaGreatDoorLines
import Derived.Test.YtgldpdbdgjehkaaGreatDoorWLeast
namespace Go.Proofs.YtgldpdbdgjehkaaGreatDoor
open Go.RowKit Go.Shelf

theorem rtexts_of (g off cap : Nat) (l : List Int) (w : World) (h0 : 0 < l.length) (h5 : l.length ≤ 500) (hr : ∀ n ∈ l, 0 ≤ n ∧ n ≤ 9999) (hg : g < w.heap.size)
    (hc : ∀ j, j < l.length → w.cell? ⟨g, off + j, none⟩ = some (.int .i64 (at0 l j))) :
    Calls Tryz.prog 55 #[.slice (some ⟨g, off, none⟩) l.length cap] w (TextsPost (textsR l) w) := by
  have ha := fun k => at0_range hr k
  by_cases h1 : l.length = 1
  · have := rtexts_one g off cap (at0 l 0) w hg (by have := (ha 0).1; omega) (by have := (ha 0).2; omega) (by have := hc 0 (by omega); rwa [Nat.add_zero] at this)
    unfold textsR
    rw [if_pos h1, h1]; exact this
  · exact rtexts_many g off cap (l.length - 1) l.length l w (by omega) rfl (by omega) (by omega) ha hg hc
/-- The best of the first k items. -/
def foldK (l' : List Int) (T : List (List UInt8)) (m k : Nat) : List UInt8 := ((itemsL l').take k).foldl (fun b it => upd b (cand T m it)) []

theorem foldK_succ {l' : List Int} {k : Nat} {it : It} (T : List (List UInt8)) (m : Nat) (h : (itemsL l')[k]? = some it) : foldK l' T m (k + 1) = upd (foldK l' T m k) (cand T m it) := by
  unfold foldK
  obtain ⟨hk, he⟩ := List.getElem?_eq_some_iff.1 h
  rw [List.take_succ_eq_append_getElem hk, he, List.foldl_append]; rfl
theorem foldK_all {l : List Int} {i k : Nat} (h : i < l.length) (hk : (itemsL (l.drop i)).length ≤ k) : bests (l.drop i) = foldK (l.drop i) (bests (l.drop (i + 1))) (l.length - i) k :: bests (l.drop (i + 1)) := by
  have e : l.drop i = l[i] :: l.drop (i + 1) := List.drop_eq_getElem_cons h
  unfold foldK
  rw [List.take_of_length_le hk]
  conv => lhs; rw [e, bests]
  rw [← e]
  congr 1
  rw [show (l.drop (i + 1)).length + 1 = l.length - i by rw [List.length_drop]; omega]
theorem texts_open {r : List (List UInt8)} {w w' : World} {e : Ending} (h : TextsPost r w e w') : Below w.heap.size w w' ∧ ((r = [] ∧ e = .returned (.slice none 0 0)) ∨ ∃ G cap, e = .returned (.slice (some ⟨G, 0, none⟩) r.length cap) ∧ w.heap.size ≤ G ∧ G < w'.heap.size ∧ ∀ j, j < r.length → w'.cell? ⟨G, j, none⟩ = (strCells r)[j]?) := by
  obtain ⟨v, rfl, ho, hb⟩ := h
  refine ⟨hb, ?_⟩
  rcases ho.2 with ⟨rfl, h0⟩ | ⟨G, cap, cur, rfl, hG, hh, _⟩
  · exact .inl ⟨List.length_eq_zero_iff.1 h0, rfl⟩
  · exact .inr ⟨G, cap, rfl, hG, lt_of_block hh, fun j hj => ho.cellAt j (by omega)⟩

theorem upd_less {c0 : UInt8} {cr S : List UInt8} (h : S.length < cr.length + 1) : upd (c0 :: cr) S = S := by simp [upd, beforeB, h]
theorem upd_yes {c0 : UInt8} {cr S : List UInt8} (h : S.length = cr.length + 1) (hb : Op.bytesLess S (c0 :: cr) = true) : upd (c0 :: cr) S = S := by simp [upd, beforeB, h, hb]
theorem upd_no {c0 : UInt8} {cr S : List UInt8} (h : S.length = cr.length + 1) (hb : Op.bytesLess S (c0 :: cr) = false) : upd (c0 :: cr) S = c0 :: cr := by simp [upd, beforeB, h, hb]
theorem upd_more {c0 : UInt8} {cr S : List UInt8} (h : cr.length + 1 < S.length) : upd (c0 :: cr) S = c0 :: cr := by
  have h1 : ¬ S.length < cr.length + 1 := by omega
  have h2 : ¬ S.length = cr.length + 1 := by omega
  simp [upd, beforeB, h1, h2]
theorem put_row {w W : World} {B i : Nat} {c : List UInt8} {T : List (List UInt8)} (s : ByteArray) (S : List UInt8) (hs : s = ⟨S.toArray⟩) (h : W.heap[B]? = some (.cells (rowC (List.replicate i [] ++ c :: T)) 9 (0, 0))) (hb : Below B w W) (hz : B < W.heap.size) :
    (W.setCell ⟨B, i, none⟩ (.string s)).heap[B]? = some (.cells (rowC (List.replicate i [] ++ S :: T)) 9 (0, 0)) ∧ Below B w (W.setCell ⟨B, i, none⟩ (.string s)) ∧ B < (W.setCell ⟨B, i, none⟩ (.string s)).heap.size := by
  subst hs
  refine ⟨?_, hb.setCell (Nat.le_refl _) _, by simpa [World.setCell] using hz⟩
  rw [heap_setCell_cells _ h, rowC_set]

set_option maxHeartbeats 4000000 in
set_option maxRecDepth 100000 in
theorem rlist_some (g off cap : Nat) (l : List Int) (w : World) (hl0 : 0 < l.length) (hl5 : l.length ≤ 500) (hcap : l.length ≤ cap) (hg : g < w.heap.size)
    (hn : ∀ j, j < l.length → w.cell? ⟨g, off + j, none⟩ = some (.int .i64 (at0 l j))) :
    Calls Tryz.prog 24 #[.slice (some ⟨g, off, none⟩) l.length cap] w (ListPost l w) := by
  have h5' : ¬ (500 : Int) < l.length := by omega
  have hmk := fun W => run_make_row' (P := Tryz.prog) 58 9 (.string ⟨#[]⟩) 16 Tryz.underlying58 info_string rfl .i64 .i64 (l.length + 1) (by omega) (by omega) W
  rw [show ((l.length + 1 : Nat) : Int) = (l.length : Int) + 1 by omega] at hmk
  have HN := Lib.hid hn; have HMK := Lib.hid hmk; clear hn hmk
  go_enter Tryz.func24, Tryz.ntmps24
  go_wp2_with fail
  go_loopg [4] l.length (fun n i wr => ∃ k : Nat, k + n = l.length ∧ i = .int .i64 k ∧ wr = w ∧ ∀ x ∈ l.take k, 0 ≤ x ∧ x ≤ 9999)
  case atStart => exact ⟨0, by omega, by go_num, rfl, by simp⟩
  case round =>
    obtain ⟨k, hkn, rfl, hw, hall⟩ := hrel
    obtain rfl : w = wr := hw.symm
    clear hw
    by_cases hlt : k < l.length
    · obtain ⟨n', rfl⟩ : ∃ n', gk = n' + 1 := ⟨gk - 1, by omega⟩
      have c0 := HN.out k hlt
      have hat := at0_at l k hlt
      have hts := take_snoc' l k hlt
      have hmem : l[k] ∈ l := List.getElem_mem hlt
      rw [hat] at c0
      clear hat
      generalize l[k] = x at c0 hts hmem
      have ik : (k : Int) < l.length := by omega
      have HA := Lib.hid hall; have HTS := Lib.hid hts; have HM := Lib.hid hmem; clear hall hts hmem
      by_cases hx : 0 ≤ x ∧ x ≤ 9999
      · have x1 : ¬ x < 0 := by omega
        have x2 : ¬ 9999 < x := by omega
        have HX := Lib.hid hx; clear hx
        go_wp2_with fail
        go_roundg n'
        case measure => omega
        case rel =>
          refine ⟨k + 1, by omega, by go_num, rfl, fun y hy => ?_⟩
          rw [HTS.out] at hy
          rcases List.mem_append.1 hy with h | h
          · exact HA.out y h
          · obtain rfl := List.mem_singleton.1 h; exact HX.out
      · have hbad : listR l = ([], 7) := by
          unfold listR
          rw [if_neg (by omega), if_pos]
          rw [List.any_eq_true]
          exact ⟨x, HM.out, by simp [listBad]; omega⟩
        have HBAD := Lib.hid hbad; clear hbad
        by_cases x1 : x < 0
        · clear hx
          go_wp2_with fail
          go_ret2
          exact listPost_mk (t := []) HBAD.out (Below.refl _ _)
        · have x2 : 9999 < x := by omega
          clear hx
          go_wp2_with fail
          go_ret2
          exact listPost_mk (t := []) HBAD.out (Below.refl _ _)
    · obtain rfl : k = l.length := by omega
      rw [List.take_length] at hall
      have HRG := Lib.hid hall
      have hres := listR_ok hl5 hall
      have HRES := Lib.hid hres
      have hmk := HMK.out
      clear hall hres
      go_wp2_with fail
      clear hmk
      go_loopg [6] l.length (fun n i wx => n ≤ l.length ∧ i = .int .i64 ((n : Int) - 1) ∧ wx.heap[w.heap.size]? = some (.cells (rowC (List.replicate n [] ++ bests (l.drop n))) 9 (0, 0)) ∧ Below w.heap.size w wx ∧ w.heap.size < wx.heap.size)
      case atStart =>
        refine ⟨Nat.le_refl _, rfl, ?_, (Below.refl _ _).alloc (Nat.le_refl _) _, by simp⟩
        rw [List.drop_length, show bests [] = List.replicate 1 [] from rfl, List.replicate_append_replicate, rowC_rep]
        exact heap_alloc_new _ _
      case round =>
        obtain ⟨hnl, rfl, hrow, hb, hsz⟩ := hrel
        have HB := Lib.hid hb; clear hb
        by_cases hn0 : gk = 0
        · subst hn0
          obtain ⟨c0, T, hbl, hcl⟩ : ∃ c0 T, bests l = c0 :: T ∧ canonL l = c0 := by
            cases l with
            | nil => exact absurd hl0 (Nat.lt_irrefl _)
            | cons a r => exact ⟨_, _, rfl, rfl⟩
          rw [List.drop_zero, List.replicate_zero, List.nil_append, hbl] at hrow
          have kr : wr.cell? ⟨w.heap.size, 0, none⟩ = some (.string ⟨c0.toArray⟩) := row_cell hrow (rowC_get 0 c0 T)
          rw [hcl] at HRES
          clear hrow hbl hcl HRG
          go_wp2_with fail
          go_ret2
          exact listPost_mk HRES.out HB.out
        · obtain ⟨i, rfl⟩ : ∃ i, gk = i + 1 := ⟨gk - 1, by omega⟩
          rw [show ((i + 1 : Nat) : Int) - 1 = (i : Int) by omega]
          have hil : i < l.length := by omega
          rw [List.replicate_succ', List.append_assoc] at hrow
          have hdl : (l.drop i).length = l.length - i := List.length_drop
          go_wp2_with fail
          go_loopg [7] (l.length - i) (fun n t wx => ∃ k : Nat, k + n = l.length - i ∧ t = .int .i64 ((i + k : Nat) : Int) ∧ wx.heap[w.heap.size]? = some (.cells (rowC (List.replicate i [] ++ foldK (l.drop i) (bests (l.drop (i + 1))) (l.length - i) k :: bests (l.drop (i + 1)))) 9 (0, 0)) ∧ Below w.heap.size w wx ∧ w.heap.size < wx.heap.size)
          case atStart => exact ⟨0, by omega, by go_num, hrow, HB.out, hsz⟩
          case round =>
            obtain ⟨k, hkn, rfl, hrow, hb, hsz⟩ := hrel
            have HB := Lib.hid hb; clear hb
            have hend : (itemsL (l.drop i)).length ≤ k → (rowC (List.replicate i [] ++ foldK (l.drop i) (bests (l.drop (i + 1))) (l.length - i) k :: bests (l.drop (i + 1)))) = rowC (List.replicate i [] ++ bests (l.drop i)) := fun h => by rw [← foldK_all hil h]
            have HEND := Lib.hid hend; clear hend
            by_cases hlt : k < l.length - i
            · obtain ⟨n', rfl⟩ : ∃ n', gk = n' + 1 := ⟨gk - 1, by omega⟩
              have ik : ((i + k : Nat) : Int) < l.length := by omega
              have hlen2 : ((l.drop i).take (k + 1)).length = k + 1 := by rw [List.length_take]; omega
              have ct : ∀ W, Below w.heap.size w W → Calls Tryz.prog 55 #[.slice (some ⟨g, off + i, none⟩) (i + k + 1 - i) (cap - i)] W (TextsPost (textsR ((l.drop i).take (k + 1))) W) := by
                intro W hbW
                have := rtexts_of g (off + i) (cap - i) ((l.drop i).take (k + 1)) W (by omega) (by omega) (fun n hn => HRG.out n (List.mem_of_mem_drop (List.mem_of_mem_take hn))) (Nat.lt_of_lt_of_le hg hbW.size) (fun j hj => by
                  rw [hbW.cell (p := ⟨g, off + i + j, none⟩) hg, at0_take _ _ _ (by omega), at0_drop, show off + i + j = off + (i + j) by omega]
                  exact HN.out (i + j) (by omega))
                rw [hlen2] at this
                rwa [show i + k + 1 - i = k + 1 by omega]
              obtain ⟨ht1, ht2⟩ := texts_item (l.drop i) k (by omega)
              rw [ht1] at ct
              cases hit : (itemsL (l.drop i))[k]? with
              | none =>
                rw [hit] at ct
                have hk9 := List.getElem?_eq_none_iff.1 hit
                rw [HEND.out hk9] at hrow
                have CT := Lib.hid ct; clear ct ht1 ht2 hit
                go_wp2_with (go_at_call 55; refine (CT.out _ HB.out).mono ?_; rintro e w1 hpost; obtain ⟨hb1, ⟨_, rfl⟩ | ⟨G, c9, rfl, hG, hG2, hcl⟩⟩ := texts_open hpost)
                · have hb2 : Below w.heap.size w w1 := HB.out.trans (hb1.mono HB.out.size)
                  have hrow1 := (hb1.block w.heap.size hsz).trans hrow
                  have hz1 : w.heap.size < w1.heap.size := Nat.lt_of_lt_of_le hsz hb1.size
                  have HB2 := Lib.hid hb2; clear hb1 hb2 hpost
                  refine wp_loop_rounds 1 ?_
                  rw [rounds_succ]
                  go_wp2_with fail
                  go_roundg i
                  case measure => omega
                  case rel => exact ⟨by omega, by go_num, hrow1, HB2.out, hz1⟩
                · have hb2 : Below w.heap.size w w1 := HB.out.trans (hb1.mono HB.out.size)
                  have hrow1 := (hb1.block w.heap.size hsz).trans hrow
                  have hz1 : w.heap.size < w1.heap.size := Nat.lt_of_lt_of_le hsz hb1.size
                  have HB2 := Lib.hid hb2; clear hb1 hb2 hpost hcl
                  refine wp_loop_rounds 1 ?_
                  rw [rounds_succ]
                  go_wp2_with fail
                  go_roundg i
                  case measure => omega
                  case rel => exact ⟨by omega, by go_num, hrow1, HB2.out, hz1⟩
              | some it =>
                rw [hit] at ct
                have hcount := ht2 it hit
                have hfk := foldK_succ (bests (l.drop (i + 1))) (l.length - i) hit
                have CT := Lib.hid ct; have HFK := Lib.hid hfk; have HIT := Lib.hid hit; clear ct ht1 ht2 hit hfk
                go_wp2_with (go_at_call 55; refine (CT.out _ HB.out).mono ?_; rintro e w1 hpost; obtain ⟨hb1, ⟨h0, _⟩ | ⟨G, c9, rfl, hG, hG2, hcl⟩⟩ := texts_open hpost)
                · cases h0
                · have hb2 : Below w.heap.size w w1 := HB.out.trans (hb1.mono HB.out.size)
                  have hrow1 := (hb1.block w.heap.size hsz).trans hrow
                  have hz1 : w.heap.size < w1.heap.size := Nat.lt_of_lt_of_le hsz hb1.size
                  have kt : w1.cell? ⟨G, 0, none⟩ = some (.string ⟨it.text.toArray⟩) := hcl 0 Nat.zero_lt_one
                  have hgood := items_good (l.drop i) (by omega) (fun k => by rw [at0_drop]; exact at0_range HRG.out _)
                  have hig := hgood it (List.mem_of_getElem? HIT.out)
                  have hT : ∀ s ∈ bests (l.drop (i + 1)), s.length ≤ 25500 := by
                    intro s hs
                    have := bests_len (l.drop (i + 1)) (by rw [List.length_drop]; omega) (fun n hn => HRG.out n (List.mem_of_mem_drop hn)) s hs
                    rw [List.length_drop] at this; omega
                  have hTl : (bests (l.drop (i + 1))).length = l.length - i := by rw [bests_length, List.length_drop]; omega
                  have hclen : (foldK (l.drop i) (bests (l.drop (i + 1))) (l.length - i) k).length ≤ 25500 + 51 :=
                    fold_len _ _ (fun x hx => cand_len (hgood x (List.mem_of_mem_take hx)) hT) (by simp)
                  have hx3 := hig.2.2.1
                  have hcand : cand (bests (l.drop (i + 1))) (l.length - i) it = it.text ++ (if k + 1 < l.length - i then 44 :: (bests (l.drop (i + 1)))[k]?.getD [] else []) := by
                    unfold cand; rw [hcount, Nat.add_sub_cancel]
                  have hjl : ((bests (l.drop (i + 1)))[k]?.getD []).length ≤ 25500 := by
                    cases hq : (bests (l.drop (i + 1)))[k]? with
                    | none => simp
                    | some q => exact hT q (List.mem_of_getElem? hq)
                  have hfk := HFK.out
                  rw [hcand] at hfk
                  have HB2 := Lib.hid hb2; have HROW := Lib.hid hrow1; have HFK2 := Lib.hid hfk
                  clear hb1 hb2 hpost hcl hgood hig hcand hfk hT hrow hrow1 hcount
                  go_loopg [9] 1 (fun n j wx => (n = 1 ∧ j = .int .i64 0 ∧ wx = w1) ∨ (n = 0 ∧ j = .int .i64 1 ∧ wx.heap[w.heap.size]? = some (.cells (rowC (List.replicate i [] ++ foldK (l.drop i) (bests (l.drop (i + 1))) (l.length - i) (k + 1) :: bests (l.drop (i + 1)))) 9 (0, 0)) ∧ Below w.heap.size w wx ∧ w.heap.size < wx.heap.size))
                  case atStart => exact .inl ⟨rfl, rfl, rfl⟩
                  case round =>
                    rcases hrel with ⟨rfl, rfl, hwx⟩ | ⟨rfl, rfl, hrow2, hbx, hzx⟩
                    · obtain rfl : w1 = wr := hwx.symm
                      clear hwx
                      have kr : w1.cell? ⟨w.heap.size, i, none⟩ = some (.string ⟨(foldK (l.drop i) (bests (l.drop (i + 1))) (l.length - i) k).toArray⟩) := row_cell HROW.out (rowC_get _ _ _)
                      have kf : w1.frozen? ⟨w.heap.size, i, none⟩ = false := row_free HROW.out
                      have kj : k + 1 < l.length - i → w1.cell? ⟨w.heap.size, i + k + 1, none⟩ = some (.string ⟨((bests (l.drop (i + 1)))[k]?.getD []).toArray⟩) := fun h => row_cell HROW.out (rowC_behind i (k + 1) _ _ (by omega) (by omega))
                      generalize (bests (l.drop (i + 1)))[k]?.getD [] = tj at kj hjl HFK2
                      generalize hcu : foldK (l.drop i) (bests (l.drop (i + 1))) (l.length - i) k = cu at kr hclen HROW HFK2
                      generalize it.text = xt at kt hx3 HFK2
                      clear hcu HEND
                      by_cases hcnt : k + 1 < l.length - i
                      · have kj' := kj hcnt
                        have hfk := HFK2.out
                        rw [if_pos hcnt] at hfk
                        have hcnt' : ((i + k : Nat) : Int) + 1 < l.length := by omega
                        have HSN := Lib.hid hfk
                        clear hfk kj hcnt HFK2
                        cases cu with
                        | nil =>
                          go_wp2_with fail
                          go_roundg 0
                          case measure => exact Nat.zero_lt_one
                          case rel =>
                            refine .inr ⟨rfl, by go_num, ?_⟩
                            rw [HSN.out, show upd [] (xt ++ 44 :: tj) = xt ++ 44 :: tj by simp [upd]]
                            exact put_row _ _ (ba_eq (by simp)) HROW.out HB2.out hz1
                        | cons c0 cr =>
                          have YES := Lib.hid (fun (h : upd (c0 :: cr) (xt ++ 44 :: tj) = xt ++ 44 :: tj) => HSN.out.trans h)
                          have NO := Lib.hid (fun (h : upd (c0 :: cr) (xt ++ 44 :: tj) = c0 :: cr) => HSN.out.trans h)
                          go_wp2_with fail
                          · go_roundg 0
                            case measure => exact Nat.zero_lt_one
                            case rel =>
                              rename_i h1 h2
                              refine .inr ⟨rfl, by go_num, ?_⟩
                              rw [YES.out (upd_yes (by simp; omega) (by simpa [Lib.toList_data] using h2))]
                              exact put_row _ _ (ba_eq (by simp)) HROW.out HB2.out hz1
                          · go_roundg 0
                            case measure => exact Nat.zero_lt_one
                            case rel =>
                              rename_i h1 h2
                              refine .inr ⟨rfl, by go_num, ?_⟩
                              rw [NO.out (upd_no (by simp; omega) (by simpa [Lib.toList_data] using h2))]
                              exact ⟨HROW.out, HB2.out, hz1⟩
                          · go_roundg 0
                            case measure => exact Nat.zero_lt_one
                            case rel =>
                              refine .inr ⟨rfl, by go_num, ?_⟩
                              rw [NO.out (upd_more (by simp; omega))]
                              exact ⟨HROW.out, HB2.out, hz1⟩
                          · go_roundg 0
                            case measure => exact Nat.zero_lt_one
                            case rel =>
                              refine .inr ⟨rfl, by go_num, ?_⟩
                              rw [YES.out (upd_less (by simp; omega))]
                              exact put_row _ _ (ba_eq (by simp)) HROW.out HB2.out hz1
                      · have hfk := HFK2.out
                        rw [if_neg hcnt, List.append_nil] at hfk
                        have hcnt' : ¬ ((i + k : Nat) : Int) + 1 < l.length := by omega
                        have HSN := Lib.hid hfk
                        clear hfk kj hcnt HFK2
                        cases cu with
                        | nil =>
                          go_wp2_with fail
                          go_roundg 0
                          case measure => exact Nat.zero_lt_one
                          case rel =>
                            refine .inr ⟨rfl, by go_num, ?_⟩
                            rw [HSN.out, show upd [] (xt) = xt by simp [upd]]
                            exact put_row _ _ (ba_eq (by simp)) HROW.out HB2.out hz1
                        | cons c0 cr =>
                          have YES := Lib.hid (fun (h : upd (c0 :: cr) (xt) = xt) => HSN.out.trans h)
                          have NO := Lib.hid (fun (h : upd (c0 :: cr) (xt) = c0 :: cr) => HSN.out.trans h)
                          go_wp2_with fail
                          · go_roundg 0
                            case measure => exact Nat.zero_lt_one
                            case rel =>
                              rename_i h1 h2
                              refine .inr ⟨rfl, by go_num, ?_⟩
                              rw [YES.out (upd_yes (by omega) (by simpa [Lib.toList_data] using h2))]
                              exact put_row _ _ (ba_eq (by simp)) HROW.out HB2.out hz1
                          · go_roundg 0
                            case measure => exact Nat.zero_lt_one
                            case rel =>
                              rename_i h1 h2
                              refine .inr ⟨rfl, by go_num, ?_⟩
                              rw [NO.out (upd_no (by omega) (by simpa [Lib.toList_data] using h2))]
                              exact ⟨HROW.out, HB2.out, hz1⟩
                          · go_roundg 0
                            case measure => exact Nat.zero_lt_one
                            case rel =>
                              refine .inr ⟨rfl, by go_num, ?_⟩
                              rw [NO.out (upd_more (by omega))]
                              exact ⟨HROW.out, HB2.out, hz1⟩
                          · go_roundg 0
                            case measure => exact Nat.zero_lt_one
                            case rel =>
                              refine .inr ⟨rfl, by go_num, ?_⟩
                              rw [YES.out (upd_less (by omega))]
                              exact put_row _ _ (ba_eq (by simp)) HROW.out HB2.out hz1
                    · go_wp2_with fail
                      go_roundg n'
                      case measure => omega
                      case rel => exact ⟨k + 1, by omega, by go_num, hrow2, hbx, hzx⟩
            · obtain rfl : k = l.length - i := by omega
              have ik : ¬ ((i + (l.length - i) : Nat) : Int) < l.length := by omega
              have hil2 := items_len (l.drop i) (List.ne_nil_of_length_pos (by omega))
              rw [HEND.out (by omega)] at hrow
              go_wp2_with fail
              go_roundg i
              case measure => omega
              case rel => exact ⟨by omega, by go_num, hrow, HB.out, hsz⟩
end Go.Proofs.YtgldpdbdgjehkaaGreatDoor
namespace Go.Proofs.YtgldpdbdgjehkaaGreatDoor
open Go.RowKit Go.Shelf

set_option maxHeartbeats 1000000 in
set_option maxRecDepth 100000 in
theorem rlist_nil (p : Option Addr) (cap : Nat) (w : World) : Calls Tryz.prog 24 #[.slice p 0 cap] w (ListPost [] w) := by
  have hmk : ∀ W : World, (Instr.makeSlice 58 (.int .i64 1) (.int .i64 1)).run Tryz.prog W = .ok (.slice (some ⟨W.heap.size, 0, none⟩) 1 1) (W.alloc (.cells #[.string ⟨#[]⟩] 9)) := fun W => by
    have h := run_make_row' (P := Tryz.prog) 58 9 (.string ⟨#[]⟩) 16 Tryz.underlying58 info_string rfl .i64 .i64 (0 + 1) (by omega) (by omega) W
    rw [← rowC_rep] at h
    exact h
  go_enter Tryz.func24, Tryz.ntmps24
  go_wp2_with fail
  refine wp_loop_rounds 1 ?_
  rw [rounds_succ]
  go_wp2_with fail
  refine wp_loop_rounds 1 ?_
  rw [rounds_succ]
  go_wp2_with fail
  go_ret2
  exact ⟨rfl, (Below.refl _ _).alloc (Nat.le_refl _) _⟩
set_option maxHeartbeats 1000000 in
theorem rlist_long (g off cap : Nat) (l : List Int) (w : World) (hl5 : 500 < l.length) (hlm : l.length ≤ maxLen) : Calls Tryz.prog 24 #[.slice (some ⟨g, off, none⟩) l.length cap] w (ListPost l w) := by
  have hbad : listR l = ([], 3) := by unfold listR; rw [if_pos hl5]
  have h5' : (500 : Int) < l.length := by omega
  have HBAD := Lib.hid hbad; clear hbad
  go_enter Tryz.func24, Tryz.ntmps24
  go_wp2_with fail
  go_ret2
  exact listPost_mk (t := []) HBAD.out (Below.refl _ _)
/-- The reference's List at a slice that holds these numbers. -/
theorem rlist_any (v : Value) (l : List Int) (w : World) (h : IntsAtL w v l) (hlm : l.length ≤ maxLen) : Calls Tryz.prog 24 #[v] w (ListPost l w) := by
  rcases h with ⟨rfl, p, cap, rfl⟩ | ⟨h0, g, off, cap, rfl, hg, hcap, hc⟩
  · exact rlist_nil p cap w
  · by_cases h5 : l.length ≤ 500
    · exact rlist_some g off cap l w h0 h5 hcap hg hc
    · exact rlist_long g off cap l w (by omega) hlm
end Go.Proofs.YtgldpdbdgjehkaaGreatDoor
