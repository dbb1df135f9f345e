/- WordsLines: the walk. -/
import Derived.Test.YtboigkmaccdkpaaGreatDoorRLines
namespace Go.Proofs.YtboigkmaccdkpaaGreatDoor
open Go.RowKit Go.Shelf

theorem linesR_len (l : List UInt8) : (linesR l).1.length ≤ 5000 := by
  unfold linesR
  split
  · simp
  · split
    · simp
    · split
      · simp
      · split
        · simp
        · rename_i h1 h2 h3 h4
          have := count_body (l := l) (by simpa using h3)
          simp only; omega
set_option maxHeartbeats 1000000 in
theorem lines_walk (s : ByteArray) (w : World) (he : Env w) (hs : s.size ≤ maxLen) : Calls Tryz.prog 12 #[.string s] w fun e w' => e = .returned (.bool true) ∧ Below w.heap.size w w' := by
  have c0 := fun W hE => shown_any W hE
  have C0 := Lib.hid c0
  have HE := Lib.hid he
  by_cases hl : 1048676 < s.size
  · have hl' : (1048676 : Int) < s.size := by omega
    clear c0 he hs
    go_enter Tryz.func12, Tryz.ntmps12
    go_wp2_with (go_at_call 14; refine (C0.out _ HE.out).mono ?_; rintro e w' ⟨rfl, hb⟩)
    go_ret
    exact ⟨rfl, hb⟩
  · have hl' : ¬ (1048676 : Int) < s.size := by omega
    have c1 := fun W hE => lines_any s W hE (by omega)
    have c2 := fun W => rlines_any s W (by omega)
    have hn := linesR_len s.data.toList
    generalize linesR s.data.toList = r at c1 c2 hn
    obtain ⟨L, er⟩ := r
    simp only at c1 c2 hn
    have C1 := Lib.hid c1; have C2 := Lib.hid c2
    clear c0 c1 c2 he hs
    go_enter Tryz.func12, Tryz.ntmps12
    go_upto_region 5 with (first
      | (go_at_call 42; refine (C1.out _ HE.out).mono ?_; rintro e w1 ⟨a1, rfl, hs1, hb1⟩; have HS1 := Lib.hid hs1; have HB1 := Lib.hid hb1; clear hs1 hb1 C1)
      | (go_at_call 43; refine (C2.out _).mono ?_; rintro e w2 ⟨a2, rfl, hs2, hb2⟩; have HS2 := Lib.hid hs2; have HB2 := Lib.hid hb2; clear hs2 hb2 C2))
    have hbw : Below w.heap.size w w2 := HB1.out.trans (HB2.out.mono HB1.out.size)
    have hsa := HS1.out.below HB2.out
    have hsb := HS2.out
    have HBW := Lib.hid hbw
    clear HS1 HS2 HB1 HB2 hbw
    rcases hsa with ⟨rfl, p, cap, rfl⟩ | ⟨h0, g, off, cap, rfl, hg, hc⟩
    · obtain ⟨q, cap2, rfl⟩ := hsb.len
      clear hsb
      go_wp2_with fail
      refine wp_loop_rounds 1 ?_
      rw [rounds_succ]
      go_wp2_with (go_at_call 14; refine (C0.out _ (HE.out.below HBW.out)).mono ?_; rintro e w7 ⟨rfl, hb7⟩)
      go_ret
      exact ⟨rfl, HBW.out.trans (hb7.mono HBW.out.size)⟩
    · rcases hsb with ⟨rfl, p, cap2, rfl⟩ | ⟨_, g2, off2, cap2, rfl, hg2, hc2⟩
      · simp at h0
      · have HC := Lib.hid hc; have HC2 := Lib.hid hc2; clear hc hc2
        go_wp2_with fail
        go_loopg [7] L.length (fun n i wr => ∃ k : Nat, k + n = L.length ∧ i = .int .i64 k ∧ Below w2.heap.size w2 wr)
        case atStart => exact ⟨0, by omega, by go_num, Below.refl _ _⟩
        case round =>
          obtain ⟨k, hkn, rfl, hbr⟩ := hrel
          have HBR := Lib.hid hbr; clear hbr
          by_cases hlt : k < L.length
          · obtain ⟨n', rfl⟩ : ∃ n', gk = n' + 1 := ⟨gk - 1, by omega⟩
            have c1 := (HBR.out.cell (p := ⟨g, off + k, none⟩) hg).trans (HC.out k hlt)
            have c2 := (HBR.out.cell (p := ⟨g2, off2 + k, none⟩) hg2).trans (HC2.out k hlt)
            generalize (⟨L[k].toArray⟩ : ByteArray) = x at c1 c2
            have ik : (k : Int) < L.length := by omega
            go_upto_region 10 with fail
            go_quiet (fail)
            go_wp2_with fail
            go_roundg n'
            case measure => omega
            case rel => exact ⟨k + 1, by omega, by go_num, HBR.out.trans (drewN_below _ _ _)⟩
          · obtain rfl : k = L.length := by omega
            have hbt := HBW.out.trans (HBR.out.mono HBW.out.size)
            have HBT := Lib.hid hbt; clear hbt
            go_wp2_with (go_at_call 14; refine (C0.out _ (HE.out.below HBT.out)).mono ?_; rintro e w7 ⟨rfl, hb7⟩)
            go_ret
            exact ⟨rfl, HBT.out.trans (hb7.mono HBT.out.size)⟩
end Go.Proofs.YtboigkmaccdkpaaGreatDoor
