/- The reference's Lines; WordsLines: the walk. -/
import Derived.Test.YtgldpdbdgjehkaaGreatDoorLines
import Derived.Test.YtgldpdbdgjehkaaGreatDoorShown
import Derived.Test.YtgldpdbdgjehkaaGreatDoorREnd
import Derived.Deep.QuietTactic
import Derived.BigQuiet
namespace Go.Proofs.YtgldpdbdgjehkaaGreatDoor
open Go.RowKit Go.Shelf

theorem seg_data (s : ByteArray) (a b : Nat) : (⟨((s.data.toList.take b).drop a).toArray⟩ : ByteArray) = s.extract a b := by
  refine ba_eq ?_
  rw [Lib.extract_data, List.drop_take]
theorem strCells_snoc (l : List (List UInt8)) (x : List UInt8) : strCells (l ++ [x]) = strCells l ++ [.string ⟨x.toArray⟩] := by simp [strCells]
def RLInv (s : ByteArray) (w : World) (i : Nat) (v fv : Value) (wr : World) : Prop :=
  ∃ (out : List (List UInt8)) (f : Nat), f ≤ i ∧ fv = .int .i64 f ∧ wr.ownsRow w.heap.size 9 1 v out.length (strCells out) ∧ Below w.heap.size w wr ∧ pieces 10 (s.data.toList.take i) = out ++ [(s.data.toList.take i).drop f] ∧ out.length ≤ i

set_option maxHeartbeats 1000000 in
set_option maxRecDepth 100000 in
theorem rlines_in (s : ByteArray) (w : World) (h0 : 0 < s.size) (hs : s.size ≤ 1048576) (hl : s.data.toList.getLast? = some 10) : Calls Tryz.prog 43 #[.string s] w (LinesPost (linesR s.data.toList) w) := by
  obtain ⟨i0, hi, hz0, hz1, hz2⟩ := info_parts info_string
  have hcb := count_body hl
  have hne : s.data.toList ≠ [] := by intro e; rw [← size_list, e] at h0; exact absurd h0 (by decide)
  have er : linesR s.data.toList = if 5000 < (pieces 10 s.data.toList.dropLast).length then ([], 3) else (pieces 10 s.data.toList.dropLast, 0) := by
    unfold linesR; rw [size_list, if_neg (by omega), if_neg hne, if_neg (by rw [hl]; simp), hcb]
  have hbody : pieces 10 s.data.toList = pieces 10 s.data.toList.dropLast ++ [[]] := by
    conv => lhs; rw [lines_body hl, pieces_sep]
  have h20 : ¬ (1048576 : Int) < s.size := by omega
  have hp : (0 : Int) < s.size := by omega
  have hll := last_at s h0
  rw [hl] at hll
  have hlast : (((s[s.size - 1]'(by omega)).toNat : Int) != 10) = false := by
    rw [← Option.some.inj hll]; rfl
  have b1 : (1 : Int) ≤ s.size := by omega
  have HI := Lib.hid hi; have HZ0 := Lib.hid hz0; have HZ1 := Lib.hid hz1; have HZ2 := Lib.hid hz2; have ER := Lib.hid er; have HBO := Lib.hid hbody
  clear hi hz0 hz1 hz2 er hbody hne hcb hll hl
  go_enter Tryz.func43, Tryz.ntmps43
  go_wp2_with fail
  go_loopg [4, 5, 6] s.size (fun n v fv i wr => ∃ k : Nat, k + n = s.size ∧ i = .int .i64 k ∧ ∃ v', v' = v ∧ RLInv s w k v' fv wr)
  case atStart => exact ⟨0, by omega, by go_num, _, rfl, [], 0, Nat.le_refl _, by go_num, World.ownsRow_nil _ _ _ _, Below.refl _ _, by simp [pieces], Nat.le_refl _⟩
  case round =>
    obtain ⟨k, hkn, rfl, v, rfl, out, f, hfk, rfl, hown, hbw, hpc, hol⟩ := hrel
    have HB := Lib.hid hbw; have HOWN := Lib.hid hown; clear hbw hown
    by_cases hlt : k < s.size
    · obtain ⟨n', rfl⟩ : ∃ n', gk = n' + 1 := ⟨gk - 1, by omega⟩
      have ik : (k : Int) < s.size := by omega
      have hts := take_snoc s k hlt
      have hlen : (s.data.toList.take k).length = k := by rw [List.length_take, size_list]; omega
      by_cases hc : s[k] = 10
      · have h3 : ((s[k].toNat : Int) == 10) = true := by rw [hc]; rfl
        have hp2 : pieces 10 (s.data.toList.take (k + 1)) = (out ++ [(s.data.toList.take k).drop f]) ++ [(s.data.toList.take (k + 1)).drop (k + 1)] := by
          have hd : (s.data.toList.take (k + 1)).drop (k + 1) = [] := List.drop_of_length_le (by rw [List.length_take]; omega)
          rw [hd, hts, hc, pieces_sep, hpc]
        have hsg := seg_data s f k
        have HP := Lib.hid hp2; have HSG := Lib.hid hsg
        have hmx : out.length + 1 ≤ maxLen := by unfold maxLen; omega
        have hby : (out.length + 1) * 16 ≤ 140737488355328 := by omega
        have HL1 := Lib.hid hmx; have HL2 := Lib.hid hby
        have d1 : (f : Int) ≤ k := by omega
        have d2 : (k : Int) ≤ s.size := by omega
        clear hp2 hmx hby hpc hts hlen hc hsg
        go_wp2_with (at_builtin; refine wpList_append_own _ rfl _ _ 58 rfl w.heap.size 9 i0 (.string ⟨#[]⟩) 1 16 Tryz.underlying58 HI.out HZ0.out HZ1.out HZ2.out rfl (by decide) _ _ _ rfl (ownsRow_below HOWN.out ((Below.refl _ _).alloc (Nat.le_refl _) _)) ⟨wr.heap.size, 0, none⟩ 1 1 [.string (s.extract f k)] rfl rfl (cell_one_at _ _ _ _ rfl) (str_one _) HL1.out HL2.out (by have := HB.out.size; simp; omega) ?_; intro v3 w3 hown3 hgrow3 hnil3)
        go_roundg n'
        case measure => omega
        case rel =>
          refine ⟨k + 1, by omega, by go_num, _, rfl, out ++ [(s.data.toList.take k).drop f], k + 1, Nat.le_refl _, by go_num, ?_, ?_, HP.out, by simp; omega⟩
          · rw [strCells_snoc, List.length_append, HSG.out]; exact hown3
          · exact (HB.out.alloc HB.out.size _).grown hgrow3 (by have := HB.out.size; simp; omega) (own_block HOWN.out)
      · have h3 : ((s[k].toNat : Int) == 10) = false := byte_ne _ 10 (by omega) hc
        have hp2 : pieces 10 (s.data.toList.take (k + 1)) = out ++ [(s.data.toList.take (k + 1)).drop f] := by
          rw [hts, List.drop_append_of_le_length (by omega)]
          exact pieces_more 10 _ hc _ _ _ hpc
        have HP := Lib.hid hp2
        clear hp2 hpc hts hlen hc
        go_wp2_with fail
        go_roundg n'
        case measure => omega
        case rel => exact ⟨k + 1, by omega, by go_num, _, rfl, out, f, by omega, rfl, HOWN.out, HB.out, HP.out, by omega⟩
    · obtain rfl : k = s.size := by omega
      rw [take_all, HBO.out] at hpc
      have hout : out = pieces 10 s.data.toList.dropLast := (List.append_inj_left' hpc (by simp)).symm
      have er2 := ER.out
      rw [← hout] at er2
      have HO2 := Lib.hid (strsAt_row HOWN.out)
      have ER2 := Lib.hid er2
      have hown := HOWN.out
      clear hpc hout er2 HOWN ER HBO
      by_cases h50 : 5000 < out.length
      · have h50' : (5000 : Int) < out.length := by omega
        rcases hown with ⟨ho1, ⟨rfl, hn⟩ | ⟨g, cap, cur, rfl, ho2⟩⟩
        · omega
        · clear ho1 ho2
          go_wp2_with fail
          go_ret2
          exact linesPost_mk (l := []) (by rw [ER2.out, if_pos h50]) (.inl ⟨rfl, _, _, rfl⟩) HB.out
      · have h50' : ¬ (5000 : Int) < out.length := by omega
        rcases hown with ⟨ho1, ⟨rfl, hn⟩ | ⟨g, cap, cur, rfl, ho2⟩⟩
        · clear ho1 hn
          go_wp2_with fail
          go_ret2
          exact linesPost_mk (by rw [ER2.out, if_neg h50]) HO2.out HB.out
        · clear ho1 ho2
          go_wp2_with fail
          go_ret2
          exact linesPost_mk (by rw [ER2.out, if_neg h50]) HO2.out HB.out
theorem linesR_short {s : ByteArray} (h : ¬ (0 < s.size ∧ s.size ≤ 1048576 ∧ s.data.toList.getLast? = some 10)) : (linesR s.data.toList = ([], 3) ∧ 1048576 < s.size) ∨ (linesR s.data.toList = ([], 0) ∧ s.size = 0) ∨ (linesR s.data.toList = ([], 6) ∧ 0 < s.size ∧ s.size ≤ 1048576 ∧ s.data.toList.getLast? ≠ some 10) := by
  unfold linesR
  rw [size_list]
  by_cases h1 : 1048576 < s.size
  · left; rw [if_pos h1]; exact ⟨rfl, h1⟩
  · rw [if_neg h1]
    by_cases h2 : s.data.toList = []
    · right; left; rw [if_pos h2]; exact ⟨rfl, by rw [← size_list, h2]; rfl⟩
    · right; right
      have h0 : 0 < s.size := by rw [← size_list]; exact List.length_pos_iff.2 h2
      have h3 : s.data.toList.getLast? ≠ some 10 := fun e => h ⟨h0, by omega, e⟩
      rw [if_neg h2, if_pos h3]; exact ⟨rfl, h0, by omega, h3⟩
theorem lines_any (s : ByteArray) (w : World) (he : Env w) (hm : s.size ≤ 2000000) : Calls Tryz.prog 42 #[.string s] w (LinesPost (linesR s.data.toList) w) := by
  by_cases h : 0 < s.size ∧ s.size ≤ 1048576 ∧ s.data.toList.getLast? = some 10
  · exact lines_in s w he h.1 h.2.1 h.2.2
  · clear he
    rcases linesR_short h with ⟨e, h1⟩ | ⟨e, h1⟩ | ⟨e, h0, h1, h2⟩
    · have h20 : (1048576 : Int) < s.size := by omega
      have HE := Lib.hid e; clear e h
      go_enter Tryz.func42, Tryz.ntmps42
      go_wp2_with fail
      go_ret2
      exact linesPost_mk (s := _) (l := []) HE.out (.inl ⟨rfl, _, _, rfl⟩) (Below.refl _ _)
    · obtain rfl : s = ⟨#[]⟩ := ba_eq (List.length_eq_zero_iff.1 (by rw [size_list]; exact h1))
      have HE := Lib.hid e; clear e h h1
      go_enter Tryz.func42, Tryz.ntmps42
      go_wp2_with fail
      go_ret2
      exact linesPost_mk (s := ⟨#[]⟩) (l := []) HE.out (.inl ⟨rfl, _, _, rfl⟩) (Below.refl _ _)
    · have c1 := fun W => (Tryz.strings_CutSuffix s ⟨#[10]⟩ W (by omega)).mono fun _ _ h => (⟨h.1, h.2.symm⟩ : _ ∧ W = _)
      rw [show ({ data := #[10] } : ByteArray).data.toList = [10] from rfl, suffix_no h2] at c1
      have hsn : ¬ s.toList = [] := by rw [Lib.toList_data]; intro e; rw [← size_list, e] at h0; exact absurd h0 (by decide)
      have hse : s.toList.isEmpty = false := by simpa using hsn
      have h20 : ¬ (1048576 : Int) < s.size := by omega
      have HE := Lib.hid e; have C1 := Lib.hid c1; clear e h c1 h2
      go_enter Tryz.func42, Tryz.ntmps42
      go_wp2_with (go_at_call 70; refine (C1.out _).mono ?_; rintro e w1 ⟨rfl, rfl⟩)
      go_ret2
      exact linesPost_mk (s := _) (l := []) HE.out (.inl ⟨rfl, _, _, rfl⟩) (Below.refl _ _)
theorem rlines_any (s : ByteArray) (w : World) (hm : s.size ≤ 2000000) : Calls Tryz.prog 43 #[.string s] w (LinesPost (linesR s.data.toList) w) := by
  by_cases h : 0 < s.size ∧ s.size ≤ 1048576 ∧ s.data.toList.getLast? = some 10
  · exact rlines_in s w h.1 h.2.1 h.2.2
  · rcases linesR_short h with ⟨e, h1⟩ | ⟨e, h1⟩ | ⟨e, h0, h1, h2⟩
    · have h20 : (1048576 : Int) < s.size := by omega
      have HE := Lib.hid e; clear e h
      go_enter Tryz.func43, Tryz.ntmps43
      go_wp2_with fail
      go_ret2
      exact linesPost_mk (s := _) (l := []) HE.out (.inl ⟨rfl, _, _, rfl⟩) (Below.refl _ _)
    · obtain rfl : s = ⟨#[]⟩ := ba_eq (List.length_eq_zero_iff.1 (by rw [size_list]; exact h1))
      have HE := Lib.hid e; clear e h h1
      go_enter Tryz.func43, Tryz.ntmps43
      go_wp2_with fail
      refine wp_loop_rounds 1 ?_
      rw [rounds_succ]
      go_wp2_with fail
      go_ret2
      exact linesPost_mk (s := ⟨#[]⟩) (l := []) HE.out (.inl ⟨rfl, _, _, rfl⟩) (Below.refl _ _)
    · have h20 : ¬ (1048576 : Int) < s.size := by omega
      have hp : (0 : Int) < s.size := by omega
      have hll := last_at s h0
      have hlast : (((s[s.size - 1]'(by omega)).toNat : Int) != 10) = true := by
        have := byte_ne (s[s.size - 1]'(by omega)) 10 (by omega) (by intro e; exact h2 (by rw [hll, e]; rfl))
        rw [beq_eq_false_iff_ne] at this; rw [bne_iff_ne]; exact this
      have b1 : (1 : Int) ≤ s.size := by omega
      have HE := Lib.hid e; clear e h h2 hll
      go_enter Tryz.func43, Tryz.ntmps43
      go_wp2_with fail
      go_ret2
      exact linesPost_mk (s := _) (l := []) HE.out (.inl ⟨rfl, _, _, rfl⟩) (Below.refl _ _)
end Go.Proofs.YtgldpdbdgjehkaaGreatDoor
