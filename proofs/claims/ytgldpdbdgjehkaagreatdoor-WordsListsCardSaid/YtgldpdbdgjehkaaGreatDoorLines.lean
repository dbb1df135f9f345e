/- Lines, of the program and of the reference. -/
import Derived.Test.YtgldpdbdgjehkaaGreatDoorLMath
import Derived.Test.YtgldpdbdgjehkaaGreatDoorCanon
import Derived.Test.YtgldpdbdgjehkaaGreatDoorRTexts
namespace Go.Proofs.YtgldpdbdgjehkaaGreatDoor
open Go.RowKit Go.Shelf

def StrsAt (W : World) (v : Value) (l : List (List UInt8)) : Prop :=
  (l = [] ∧ ∃ p cap, v = .slice p 0 cap) ∨
  (0 < l.length ∧ ∃ g off cap, v = .slice (some ⟨g, off, none⟩) l.length cap ∧ g < W.heap.size ∧ ∀ j (h : j < l.length), W.cell? ⟨g, off + j, none⟩ = some (.string ⟨l[j].toArray⟩))
theorem StrsAt.below {w w' : World} {v : Value} {l : List (List UInt8)} (h : StrsAt w v l) (hb : Below w.heap.size w w') : StrsAt w' v l := by
  rcases h with h | ⟨h0, g, off, cap, e, hg, hc⟩
  · exact .inl h
  · exact .inr ⟨h0, g, off, cap, e, Nat.lt_of_lt_of_le hg hb.size, fun j hj => (hb.cell (p := ⟨g, off + j, none⟩) hg).trans (hc j hj)⟩
theorem StrsAt.len {W : World} {v : Value} {l : List (List UInt8)} (h : StrsAt W v l) : ∃ p cap, v = .slice p l.length cap := by
  rcases h with ⟨rfl, p, cap, e⟩ | ⟨_, g, off, cap, e, _⟩
  · exact ⟨p, cap, e⟩
  · exact ⟨_, cap, e⟩
theorem strsAt_row {W : World} {base : Nat} {t : TypeId} {v : Value} {l : List (List UInt8)} (h : W.ownsRow base t 1 v l.length (strCells l)) : StrsAt W v l := by
  obtain ⟨h1, ⟨rfl, h2⟩ | ⟨g, cap, cur, rfl, hg, hh, hc, hm, hz, ht⟩⟩ := h
  · exact .inl ⟨List.length_eq_zero_iff.1 h2, _, _, rfl⟩
  · cases l with
    | nil => exact .inl ⟨rfl, _, _, rfl⟩
    | cons f r =>
      refine .inr ⟨Nat.succ_pos _, g, 0, cap, rfl, lt_of_block hh, fun j hj => ?_⟩
      have e : (strCells (f :: r))[j]? = some (.string ⟨(f :: r)[j].toArray⟩) := by
        unfold strCells; rw [List.getElem?_map, List.getElem?_eq_getElem hj]; rfl
      rw [← ht, List.getElem?_take, if_pos (by omega), Array.getElem?_toList] at e
      rw [Nat.zero_add]
      exact row_cell hh e
theorem str_one (s : ByteArray) : ∀ u ∈ [Value.string s], u.oneCell' = true := by
  intro u hu; simp only [List.mem_cons, List.not_mem_nil, or_false] at hu; subst hu; rfl
def LinesPost (r : List (List UInt8) × Int) (w : World) (e : Ending) (w' : World) : Prop :=
  ∃ v, e = .returned (.tuple #[v, .int .i64 r.2]) ∧ StrsAt w' v r.1 ∧ Below w.heap.size w w'
theorem linesPost_mk {s : ByteArray} {w w' : World} {v : Value} {l : List (List UInt8)} {er : Int} (h : linesR s.data.toList = (l, er)) (ho : StrsAt w' v l) (hb : Below w.heap.size w w') :
    LinesPost (linesR s.data.toList) w (.returned (.tuple #[v, .int .i64 er])) w' := by rw [h]; exact ⟨v, rfl, ho, hb⟩

theorem set_same (cs : Array Value) (i : Nat) (v : Value) (h : cs[i]? = some v) : cs.setIfInBounds i v = cs := by
  apply Array.ext_getElem?
  intro j
  rw [Array.getElem?_setIfInBounds]
  by_cases hj : i = j
  · subst hj
    rw [if_pos rfl]
    by_cases hi : i < cs.size
    · rw [if_pos hi, h]
    · rw [Array.getElem?_eq_none (by omega)] at h; cases h
  · rw [if_neg hj]
set_option maxHeartbeats 1000000 in
theorem lines_in (s : ByteArray) (w : World) (he : Env w) (h0 : 0 < s.size) (hs : s.size ≤ 1048576) (hl : s.data.toList.getLast? = some 10) : Calls Tryz.prog 42 #[.string s] w (LinesPost (linesR s.data.toList) w) := by
  obtain ⟨h1, h2⟩ := suffix_yes hl
  have hcb := count_body hl
  have hne : s.data.toList ≠ [] := by intro e; rw [← size_list, e] at h0; exact absurd h0 (by decide)
  have er : linesR s.data.toList = if 5000 < Lib.countByte s.data.toList 10 then ([], 3) else (pieces 10 s.data.toList.dropLast, 0) := by
    unfold linesR; rw [size_list, if_neg (by omega), if_neg hne, if_neg (by rw [hl]; simp)]
  have c1 := fun W => (Tryz.strings_CutSuffix s ⟨#[10]⟩ W (by omega)).mono fun _ _ h => (⟨h.1, h.2.symm⟩ : _ ∧ W = _)
  rw [show ({ data := #[10] } : ByteArray).data.toList = [10] from rfl, h1, h2] at c1
  have c2 := fun W => (Tryz.strings_Count_one s 10 W).mono fun _ _ h => (⟨h.1, h.2.symm⟩ : _ ∧ W = _)
  obtain ⟨m, hm⟩ := he.maxlen
  have hdl : s.data.toList.dropLast.length ≤ 1048576 := by rw [List.length_dropLast, size_list]; omega
  have c3 := Tryz.strings_Split ⟨s.data.toList.dropLast.toArray⟩ ⟨#[10]⟩ m w (by rw [ba_size]; omega) hm (by decide)
  have hpp := splitB_pieces 10 ⟨s.data.toList.dropLast.toArray⟩
  have hpl := Lib.splitB_all ⟨#[10]⟩ (by decide) 0 _ ⟨s.data.toList.dropLast.toArray⟩ rfl
  rw [show (⟨s.data.toList.dropLast.toArray⟩ : ByteArray).data.toList = s.data.toList.dropLast by simp] at hpp
  rw [← hpl] at c3
  rw [← hpp] at er hcb
  rw [List.length_map] at hcb
  have hsz : ∀ p ∈ Lib.splitB ⟨#[10]⟩ 0 (Lib.countB ⟨s.data.toList.dropLast.toArray⟩ ⟨#[10]⟩) ⟨s.data.toList.dropLast.toArray⟩, p.size ≤ 1048576 := by
    intro p hp
    have := pieces_len 10 s.data.toList.dropLast p.data.toList (by rw [← hpp]; exact List.mem_map_of_mem hp)
    rw [size_list] at this; omega
  generalize Lib.splitB ⟨#[10]⟩ 0 (Lib.countB ⟨s.data.toList.dropLast.toArray⟩ ⟨#[10]⟩) ⟨s.data.toList.dropLast.toArray⟩ = ps at c3 hpp hpl er hcb hsz
  have hsn : ¬ s.toList = [] := by rw [Lib.toList_data]; exact hne
  have hse : s.toList.isEmpty = false := by simpa using hsn
  have h20 : ¬ (1048576 : Int) < s.size := by omega
  rw [hcb] at er c2
  have C1 := Lib.hid c1; have C2 := Lib.hid c2; have C3 := Lib.hid c3; have ER := Lib.hid er; have HSZ := Lib.hid hsz
  clear c1 c2 c3 er hpp hpl hcb h1 h2 hm hne hdl hl he hsz
  by_cases h50 : 5000 < ps.length
  · have h50' : (5000 : Int) < ps.length := by omega
    go_enter Tryz.func42, Tryz.ntmps42
    go_wp2_with (first
      | (go_at_call 70; refine (C1.out _).mono ?_; rintro e w1 ⟨rfl, rfl⟩)
      | (go_at_call 71; refine (C2.out _).mono ?_; rintro e w1 ⟨rfl, rfl⟩))
    go_ret2
    exact linesPost_mk (l := []) (by rw [ER.out, if_pos h50]) (.inl ⟨rfl, _, _, rfl⟩) (Below.refl _ _)
  · have h50' : ¬ (5000 : Int) < ps.length := by omega
    have HP : Hid (∀ W v, v = .slice (some ⟨w.heap.size, 0, none⟩) ps.length ps.length → W.heap[w.heap.size]? = some (.cells (ps.map Value.string).toArray 9 (0, 0)) → Below w.heap.size w W → LinesPost (linesR s.data.toList) w (.returned (.tuple #[v, .int .i64 0])) W) := Lib.hid fun W v hv hh hb => by
      refine linesPost_mk (l := ps.map (·.data.toList)) (by rw [ER.out, if_neg h50]) ?_ hb
      subst hv
      by_cases hp0 : ps.length = 0
      · obtain rfl := List.length_eq_zero_iff.1 hp0
        exact .inl ⟨rfl, _, _, rfl⟩
      · refine .inr ⟨by rw [List.length_map]; omega, w.heap.size, 0, ps.length, by rw [List.length_map], lt_of_block hh, fun j hj => ?_⟩
        rw [List.length_map] at hj
        rw [Nat.zero_add]
        refine row_cell hh ?_
        rw [List.getElem?_toArray, List.getElem?_map, List.getElem?_eq_getElem hj]
        simp [ba_list]
    go_enter Tryz.func42, Tryz.ntmps42
    go_wp2_with (first
      | (go_at_call 70; refine (C1.out _).mono ?_; rintro e w1 ⟨rfl, rfl⟩)
      | (go_at_call 71; refine (C2.out _).mono ?_; rintro e w1 ⟨rfl, rfl⟩)
      | (go_at_call 56; refine (C3.out).mono ?_; rintro e w1 ⟨rfl, rfl⟩))
    go_loopg [28] ps.length (fun n i wr => ∃ k : Nat, k + n = ps.length ∧ i = .int .i64 k ∧ wr.heap[w.heap.size]? = some (.cells (ps.map Value.string).toArray 9 (0, 0)) ∧ Below w.heap.size w wr)
    case atStart => exact ⟨0, by omega, by go_num, heap_alloc_new _ _, (Below.refl _ _).alloc (Nat.le_refl _) _⟩
    case round =>
      obtain ⟨k, hkn, rfl, hh, hbw⟩ := hrel
      have HH := Lib.hid hh; have HB := Lib.hid hbw; clear hh hbw
      by_cases hlt : k < ps.length
      · obtain ⟨n', rfl⟩ : ∃ n', gk = n' + 1 := ⟨gk - 1, by omega⟩
        have hv : (ps.map Value.string).toArray[k]? = some (.string ps[k]) := by rw [List.getElem?_toArray, List.getElem?_map, List.getElem?_eq_getElem hlt]; rfl
        have c0 := row_cell HH.out hv
        have hpz := HSZ.out _ (List.getElem_mem hlt)
        generalize ps[k] = p at c0 hv hpz
        have cC := fun W => clone_any p W (by omega)
        have CC := Lib.hid cC; have HV := Lib.hid hv; clear cC hv hpz
        have ik : (k : Int) < ps.length := by omega
        go_wp2_with (go_at_call 64; refine (CC.out _).mono ?_; rintro e w2 ⟨rfl, hb2⟩; have HH2 := Lib.hid ((hb2.block _ (lt_of_block HH.out)).trans HH.out); have c2 := row_cell HH2.out HV.out; have f2 := row_free (i := k) HH2.out; have HB2 := Lib.hid (HB.out.trans (hb2.mono HB.out.size)); clear hb2)
        go_roundg n'
        case measure => omega
        case rel =>
          refine ⟨k + 1, by omega, by go_num, ?_, HB2.out.setCell (Nat.le_refl _) _⟩
          rw [heap_setCell_cells _ HH2.out, set_same _ _ _ HV.out]
      · obtain rfl : k = ps.length := by omega
        go_wp2_with fail
        go_ret2
        exact HP.out _ _ rfl HH.out HB.out
end Go.Proofs.YtgldpdbdgjehkaaGreatDoor
