/- words.Hex. -/
import Derived.Test.YtboigkmaccdkpaaGreatDoorHexB
import Derived.Deep.RegionLaw
namespace Go.Proofs.YtboigkmaccdkpaaGreatDoor
open Go.RowKit Go.Shelf

theorem u8_two (n m : Int) : ∀ u ∈ [Value.int .u8 n, Value.int .u8 m], u.oneCell' = true := by
  intro u hu; simp only [List.mem_cons, List.not_mem_nil, or_false] at hu; rcases hu with rfl | rfl <;> rfl
theorem and15 : ∀ b : Nat, b < 256 → bits .and .u8 (b : Int) 15 = (b : Int) % 16 := by decide +kernel
set_option maxHeartbeats 1000000 in
theorem hex_some (g off cap : Nat) (bs : List UInt8) (w : World) (hx : HexIs w) (h9 : 9 ≤ w.heap.size) (h0 : 0 < bs.length) (hg : g < w.heap.size) (h1 : bs.length ≤ 100)
    (hc : ∀ j (h : j < bs.length), w.cell? ⟨g, off + j, none⟩ = some (.int .u8 (bs[j].toNat : Int))) :
    Calls Tryz.prog 28 #[.slice (some ⟨g, off, none⟩) bs.length cap] w (HexPost (hexL bs, 0) w) := by
  obtain ⟨i0, hi, hz0, hz1, hz2⟩ := info_parts info_u8
  have HC := Lib.hid hc; have HX := Lib.hid hx
  have hb2 : i0.bytes * (2 * bs.length) ≤ 281474976710656 := by rw [hz2]; omega
  have hmx : 2 * bs.length ≤ maxLen := by unfold maxLen; omega
  have HI := Lib.hid hi; have HZ0 := Lib.hid hz0; have HZ1 := Lib.hid hz1; have HZ2 := Lib.hid hz2; have HB2 := Lib.hid hb2; have HMX := Lib.hid hmx
  clear hc hi hz0 hz1 hz2 hb2 hmx hx
  have h1' : ¬ (100 : Int) < bs.length := by omega
  obtain ⟨N, hN⟩ : ∃ N, 2 * bs.length = N := ⟨_, rfl⟩
  have hN2 : 2 * (bs.length : Int) = (N : Int) := by omega
  rw [hN] at HB2 HMX
  go_enter Tryz.func28, Tryz.ntmps28
  go_wp2_with (at_make; refine wpList_make_own _ rfl _ _ 39 rfl w.heap.size 5 i0 (.int .u8 0) 1 Tryz.underlying39 HI.out HZ0.out HZ1.out .i64 .i64 _ N rfl rfl rfl HB2.out HMX.out (Nat.le_refl _) ?_; intro w0 hown0 hgrow0)
  have hb0 : Below w.heap.size w w0 := (Below.refl _ _).grown hgrow0 (Nat.le_refl _) (fun k e => by cases e)
  have HO0 := Lib.hid hown0; have HB0 := Lib.hid hb0; clear hown0 hgrow0 hb0
  go_loopg [4, 16] bs.length (fun n v i wr => ∃ k : Nat, k + n = bs.length ∧ i = .int .i64 k ∧ ∃ v', v' = v ∧ wr.ownsRow w.heap.size 5 1 v' (hexL (bs.take k)).length (byteRow (hexL (bs.take k))) ∧ Below w.heap.size w wr)
  case atStart => exact ⟨0, by omega, by go_num, _, rfl, HO0.out, HB0.out⟩
  case round =>
    obtain ⟨k, hkn, rfl, v, rfl, hown, hbw⟩ := hrel
    have HB := Lib.hid hbw; have HOWN := Lib.hid hown; clear hbw hown
    by_cases hlt : k < bs.length
    · obtain ⟨n', rfl⟩ : ∃ n', gk = n' + 1 := ⟨gk - 1, by omega⟩
      have c0 := (HB.out.cell (p := ⟨g, off + k, none⟩) hg).trans (HC.out k hlt)
      have hts : hexL (bs.take (k + 1)) = hexL (bs.take k) ++ [hexD (bs[k].toNat / 16), hexD (bs[k].toNat % 16)] := by rw [take_snoc' bs k hlt, hexL_snoc]
      have hll : (hexL (bs.take k)).length ≤ 200 := by rw [hexL_length, List.length_take]; omega
      have hb := bs[k].toNat_lt
      generalize bs[k].toNat = b at c0 hts hb
      have ik : (k : Int) < bs.length := by omega
      have hxr := HX.out.below h9 HB.out
      have e0 := hxr (b / 16) (by omega)
      have e1 := hxr (b % 16) (by omega)
      rw [show b / 16 = ((b : Int) / 16).toNat by omega] at e0
      rw [show b % 16 = ((b : Int) % 16).toNat by omega] at e1
      have HTS := Lib.hid hts; clear hts hxr
      generalize hexL (bs.take k) = L at hll HTS HOWN ⊢
      have i0' : (0 : Int) ≤ (b : Int) / 16 := by omega
      have i1' : (b : Int) / 16 < 16 := by omega
      have i2' : (0 : Int) ≤ (b : Int) % 16 := by omega
      have i3' : (b : Int) % 16 < 16 := by omega
      have hand := and15 b hb
      have hmx : L.length + 2 ≤ maxLen := by unfold maxLen; omega
      have hby : (L.length + 2) * 1 ≤ 140737488355328 := by omega
      have H1C := Lib.hid (u8_two ((hexD ((b : Int) / 16).toNat).toNat) ((hexD ((b : Int) % 16).toNat).toNat))
      have HM := Lib.hid hmx; have HY := Lib.hid hby; clear hmx hby
      have ho : (wr.drew).ownsRow w.heap.size 5 1 v L.length (byteRow L) := ownsRow_below HOWN.out ((Below.refl _ _).drew)
      have HO2 := Lib.hid ho; clear ho
      go_upto_region 7 with fail
      go_region_law (refine step_append_lies _ rfl (.tmp 20) (.tmp 29) 39 rfl w.heap.size 5 i0 (.int .u8 0) 1 1 Tryz.underlying39 HI.out HZ0.out HZ1.out HZ2.out rfl (by decide) v L.length (byteRow L) rfl (ownsRow_below HO2.out ((Below.refl _ _).alloc (Nat.le_refl _) _)) ⟨wr.heap.size, 0, none⟩ 2 2 [.int .u8 ((hexD ((b : Int) / 16).toNat).toNat : Int), .int .u8 ((hexD ((b : Int) % 16).toNat).toNat : Int)] rfl rfl (cell_two_at _ _ _ _ _ rfl) H1C.out (by decide) HM.out HY.out (by have := HB.out.size; simp; omega) _ rfl ?_; intro g4 cap4 w4 hown4 hgrow4 hg4 hlt4)
      all_goals
        go_wp2_with fail
        go_roundg n'
        case measure => omega
        case rel =>
          refine ⟨k + 1, by omega, by go_num, _, rfl, ?_, ?_⟩
          · rw [HTS.out, byteRow_append, List.length_append, show b / 16 = ((b : Int) / 16).toNat by omega, show b % 16 = ((b : Int) % 16).toNat by omega]; exact hown4
          · have hb : Below w.heap.size w (wr.alloc (.cells #[.int .u8 ((hexD ((b : Int) / 16).toNat).toNat : Int), .int .u8 ((hexD ((b : Int) % 16).toNat).toNat : Int)] 5)).drew := (HB.out.alloc HB.out.size _).drew
            exact hb.grown hgrow4 (by have := HB.out.size; simp; omega) (own_block HOWN.out)
    · obtain rfl : k = bs.length := by omega
      rw [List.take_length] at HOWN
      have hcv := bytes_str HOWN.out
      go_wp2_with fail
      go_ret2
      exact ⟨rfl, HB.out⟩
end Go.Proofs.YtboigkmaccdkpaaGreatDoor
