/- WordsHex: the walk. -/
import Derived.Test.YtboigkmaccdkpaaGreatDoorHexR
import Derived.Test.YtboigkmaccdkpaaGreatDoorShown
namespace Go.Proofs.YtboigkmaccdkpaaGreatDoor
open Go.RowKit Go.Shelf

theorem hex_nil (p : Option Addr) (cap : Nat) (w : World) : Calls Tryz.prog 28 #[.slice p 0 cap] w (HexPost (hexR []) w) := by
  obtain ⟨i0, hi, hz0, hz1, hz2⟩ := info_parts info_u8
  have hb2 : i0.bytes * 0 ≤ 281474976710656 := by omega
  have hmx : 0 ≤ maxLen := Nat.zero_le _
  go_enter Tryz.func28, Tryz.ntmps28
  go_wp2_with (at_make; refine wpList_make_own _ rfl _ _ 39 rfl w.heap.size 5 i0 (.int .u8 0) 1 Tryz.underlying39 hi hz0 hz1 .i64 .i64 _ 0 rfl rfl rfl hb2 hmx (Nat.le_refl _) ?_; intro w0 hown0 hgrow0)
  refine wp_loop_rounds 1 ?_
  rw [rounds_succ]
  have hb0 : Below w.heap.size w w0 := (Below.refl _ _).grown hgrow0 (Nat.le_refl _) (fun k e => by cases e)
  have hcv := bytes_str (l := []) hown0
  clear hown0 hgrow0 hi hz0 hz1 hz2 hb2 hmx
  go_wp2_with fail
  go_ret2
  exact ⟨rfl, hb0⟩
theorem hex_many (p : Option Addr) (n cap : Nat) (bs : List UInt8) (hn : bs.length = n) (h : 100 < n) (w : World) : Calls Tryz.prog 28 #[.slice p n cap] w (HexPost (hexR bs) w) := by
  have h' : (100 : Int) < n := by omega
  have e : hexR bs = ([], 3) := by rw [hexR, if_pos (by omega)]
  rw [e]; clear e
  go_enter Tryz.func28, Tryz.ntmps28
  go_wp2_with fail
  go_ret2
  exact ⟨rfl, Below.refl _ _⟩
theorem hex_any (v : Value) (bs : List UInt8) (w : World) (hE : Env w) (hx : HexIs w) (h : BytesAt w v bs) : Calls Tryz.prog 28 #[v] w (HexPost (hexR bs) w) := by
  rcases h with ⟨rfl, p, cap, rfl⟩ | ⟨h0, g, off, cap, rfl, hg, hc⟩
  · exact hex_nil p cap w
  · by_cases h1 : 100 < bs.length
    · exact hex_many _ _ cap bs rfl h1 w
    · rw [hexR, if_neg h1]
      exact hex_some g off cap bs w hx hE.size h0 hg (by omega) hc
theorem rhex_nil (p : Option Addr) (cap : Nat) (w : World) : Calls Tryz.prog 29 #[.slice p 0 cap] w (HexPost (hexR []) w) := by
  go_enter Tryz.func29, Tryz.ntmps29
  go_wp2_with fail
  refine wp_loop_rounds 1 ?_
  rw [rounds_succ]
  go_wp2_with fail
  go_ret2
  exact ⟨rfl, Below.refl _ _⟩
theorem rhex_many (p : Option Addr) (n cap : Nat) (bs : List UInt8) (hn : bs.length = n) (h : 100 < n) (w : World) : Calls Tryz.prog 29 #[.slice p n cap] w (HexPost (hexR bs) w) := by
  have h' : (100 : Int) < n := by omega
  have e : hexR bs = ([], 3) := by rw [hexR, if_pos (by omega)]
  rw [e]; clear e
  go_enter Tryz.func29, Tryz.ntmps29
  go_wp2_with fail
  go_ret2
  exact ⟨rfl, Below.refl _ _⟩
theorem rhex_any (v : Value) (bs : List UInt8) (w : World) (h : BytesAt w v bs) : Calls Tryz.prog 29 #[v] w (HexPost (hexR bs) w) := by
  rcases h with ⟨rfl, p, cap, rfl⟩ | ⟨h0, g, off, cap, rfl, hg, hc⟩
  · exact rhex_nil p cap w
  · by_cases h1 : 100 < bs.length
    · exact rhex_many _ _ cap bs rfl h1 w
    · rw [hexR, if_neg h1]
      exact rhex_some g off cap bs w h0 hg (by omega) hc
theorem unhex_any (s : ByteArray) (w : World) (hE : Env w) (hx : HexIs w) (hs : s.size ≤ maxLen) : Calls Tryz.prog 30 #[.string s] w (UnhexPost (unhexR s.data.toList) w) := by
  by_cases h1 : s.size ≤ 200
  · by_cases h2 : s.size % 2 = 0
    · exact unhex_in s w hx hE.size h1 h2
    · have h200 : ¬ (200 : Int) < s.size := by omega
      have hr0 : ((s.size : Int).tmod 2 != 0) = true := by rw [bne_iff_ne]; intro e; rw [Int.tmod_eq_emod_of_nonneg (by omega)] at e; omega
      have hr1 : ((s.size : Int) % 2 != 0) = true := by rw [bne_iff_ne]; omega
      have e : unhexR s.data.toList = ([], 6) := by unfold unhexR; rw [size_list, if_neg (by omega), if_pos (by omega)]
      have HE := Lib.hid e; clear e hE hx
      go_enter Tryz.func30, Tryz.ntmps30
      go_wp2_with fail
      go_ret2
      exact unhexPost_mk (l := []) HE.out (World.ownsRow_nil _ _ _ _) (Below.refl _ _)
  · have h200 : (200 : Int) < s.size := by omega
    have e : unhexR s.data.toList = ([], 3) := by unfold unhexR; rw [size_list, if_pos (by omega)]
    have HE := Lib.hid e; clear e hE hx hs
    go_enter Tryz.func30, Tryz.ntmps30
    go_wp2_with fail
    go_ret2
    exact unhexPost_mk (l := []) HE.out (World.ownsRow_nil _ _ _ _) (Below.refl _ _)
theorem runhex_any (s : ByteArray) (w : World) : Calls Tryz.prog 31 #[.string s] w (UnhexPost (unhexR s.data.toList) w) := by
  by_cases h1 : s.size ≤ 200
  · by_cases h2 : s.size % 2 = 0
    · exact runhex_in s w h1 h2
    · have h200 : ¬ (200 : Int) < s.size := by omega
      have hr0 : ((s.size : Int).tmod 2 != 0) = true := by rw [bne_iff_ne]; intro e; rw [Int.tmod_eq_emod_of_nonneg (by omega)] at e; omega
      have hr1 : ((s.size : Int) % 2 != 0) = true := by rw [bne_iff_ne]; omega
      have e : unhexR s.data.toList = ([], 6) := by unfold unhexR; rw [size_list, if_neg (by omega), if_pos (by omega)]
      have HE := Lib.hid e; clear e
      go_enter Tryz.func31, Tryz.ntmps31
      go_wp2_with fail
      go_ret2
      exact unhexPost_mk (l := []) HE.out (World.ownsRow_nil _ _ _ _) (Below.refl _ _)
  · have h200 : (200 : Int) < s.size := by omega
    have e : unhexR s.data.toList = ([], 3) := by unfold unhexR; rw [size_list, if_pos (by omega)]
    have HE := Lib.hid e; clear e
    go_enter Tryz.func31, Tryz.ntmps31
    go_wp2_with fail
    go_ret2
    exact unhexPost_mk (l := []) HE.out (World.ownsRow_nil _ _ _ _) (Below.refl _ _)

set_option maxHeartbeats 2000000 in
theorem hex_walk (v : Value) (bs : List UInt8) (s : ByteArray) (w : World) (he : Env w) (hx : HexIs w) (h : BytesAt w v bs) (hlb : bs.length ≤ maxLen) (hs : s.size ≤ maxLen) :
    Calls Tryz.prog 8 #[v, .string s] w fun e w' => e = .returned (.bool true) ∧ Below w.heap.size w w' := by
  have c0 := fun W hE => shown_any W hE
  have C0 := Lib.hid c0
  have HE := Lib.hid he; have HX := Lib.hid hx; have HF := Lib.hid h
  obtain ⟨p, cap, rfl⟩ := h.len
  by_cases hl : 300 < bs.length
  · have hl' : (300 : Int) < bs.length := by omega
    clear c0 he hx h hlb
    go_enter Tryz.func8, Tryz.ntmps8
    go_wp2_with (go_at_call 14; refine (C0.out _ HE.out).mono ?_; rintro e w' ⟨rfl, hb⟩)
    go_ret
    exact ⟨rfl, hb⟩
  · have hl' : ¬ (300 : Int) < bs.length := by omega
    by_cases hl6 : 600 < s.size
    · have hl6' : (600 : Int) < s.size := by omega
      clear c0 he hx h hlb
      go_enter Tryz.func8, Tryz.ntmps8
      go_wp2_with (go_at_call 14; refine (C0.out _ HE.out).mono ?_; rintro e w' ⟨rfl, hb⟩)
      go_ret
      exact ⟨rfl, hb⟩
    · have hl6' : ¬ (600 : Int) < s.size := by omega
      have c1 := fun W hE hx hF => hex_any (.slice p bs.length cap) bs W hE hx hF
      have c2 := fun W hF => rhex_any (.slice p bs.length cap) bs W hF
      have c3 := fun W hE hx => unhex_any s W hE hx hs
      have c4 := fun W => runhex_any s W
      have c5 := fun W hE hx => unhex_any ⟨(hexR bs).1.toArray⟩ W hE hx (by rw [ba_size]; have : (hexR bs).1.length ≤ 200 := by { unfold hexR; split; { simp }; { rename_i h1; simp only; rw [hexL_length]; omega } }; unfold maxLen; omega)
      have c6 := fun (a : Value) W hE hx hF => hex_any a (unhexR s.data.toList).1 W hE hx hF
      rw [show (⟨(hexR bs).1.toArray⟩ : ByteArray).data.toList = (hexR bs).1 by simp] at c5
      have r1 := @unhex_hex bs
      have r2 := @hex_unhex s.data.toList
      generalize hexR bs = r at c1 c2 c5 r1
      generalize unhexR s.data.toList = u at c3 c4 c6 r2
      obtain ⟨T, e1⟩ := r
      obtain ⟨D, e2⟩ := u
      simp only at c1 c2 c3 c4 c5 c6 r1 r2
      have C1 := Lib.hid c1; have C2 := Lib.hid c2; have C3 := Lib.hid c3; have C4 := Lib.hid c4
      clear c0 c1 c2 c3 c4 he hx h hs hlb
      by_cases h1 : e1 = 0
      · subst h1
        rw [r1 rfl] at c5
        have C5 := Lib.hid c5; clear c5 r1
        by_cases h2 : e2 = 0
        · subst h2
          rw [r2 rfl] at c6
          unfold HexPost at c6
          simp only [ba_list] at c6
          have C6 := Lib.hid c6; clear c6 r2
          go_enter Tryz.func8, Tryz.ntmps8
          go_wp2_with (first
            | (go_at_call 28; refine (C1.out _ HE.out HX.out HF.out).mono ?_; rintro e w1 ⟨rfl, hb1⟩; have HB1 := Lib.hid hb1; clear hb1 C1)
            | (go_at_call 29; refine (C2.out _ (HF.out.below HB1.out)).mono ?_; rintro e w2 ⟨rfl, hb2⟩; have HB2 := Lib.hid (HB1.out.trans (hb2.mono HB1.out.size)); clear hb2 C2)
            | (go_at_call 30; refine (C3.out _ (HE.out.below HB2.out) (HX.out.below HE.out.size HB2.out)).mono ?_; rintro e w3 ⟨a3, rfl, ho3, hb3⟩; have HO3 := Lib.hid ho3; have HB3 := Lib.hid (HB2.out.trans (hb3.mono HB2.out.size)); clear ho3 hb3 C3)
            | (go_at_call 31; refine (C4.out _).mono ?_; rintro e w4 ⟨a4, rfl, ho4, hb4⟩; have HO34 := Lib.hid (ownsRow_below HO3.out hb4); have HB4 := Lib.hid (HB3.out.trans (hb4.mono HB3.out.size)); have k3 := bytesAt_str (bytesAt_row HO34.out); have k4 := bytesAt_str (bytesAt_row ho4); clear ho4 hb4 C4 HO3)
            | (go_at_call 30; refine (C5.out _ (HE.out.below HB4.out) (HX.out.below HE.out.size HB4.out)).mono ?_; rintro e w5 ⟨a5, rfl, ho5, hb5⟩; clear k3 k4; have HO35 := Lib.hid (ownsRow_below HO34.out hb5); have HB5 := Lib.hid (HB4.out.trans (hb5.mono HB4.out.size)); have k5 := bytesAt_str (bytesAt_row ho5); have k0 := bytesAt_str (HF.out.below HB5.out); clear ho5 hb5 C5 HO34)
            | (go_at_call 28; refine (C6.out _ _ (HE.out.below HB5.out) (HX.out.below HE.out.size HB5.out) (bytesAt_row HO35.out)).mono ?_; rintro e w6 ⟨rfl, hb6⟩; have HB6 := Lib.hid (HB5.out.trans (hb6.mono HB5.out.size)); clear hb6 C6)
            | (go_at_call 14; refine (C0.out _ (HE.out.below HB6.out)).mono ?_; rintro e w7 ⟨rfl, hb7⟩; have HB7 := Lib.hid (HB6.out.trans (hb7.mono HB6.out.size)); clear hb7))
          go_ret
          exact ⟨rfl, HB7.out⟩
        · have hb2 : (e2 == 0) = false := beq_eq_false_iff_ne.2 h2
          clear c6 r2 h2
          go_enter Tryz.func8, Tryz.ntmps8
          go_wp2_with (first
            | (go_at_call 28; refine (C1.out _ HE.out HX.out HF.out).mono ?_; rintro e w1 ⟨rfl, hb1⟩; have HB1 := Lib.hid hb1; clear hb1 C1)
            | (go_at_call 29; refine (C2.out _ (HF.out.below HB1.out)).mono ?_; rintro e w2 ⟨rfl, hb2⟩; have HB2 := Lib.hid (HB1.out.trans (hb2.mono HB1.out.size)); clear hb2 C2)
            | (go_at_call 30; refine (C3.out _ (HE.out.below HB2.out) (HX.out.below HE.out.size HB2.out)).mono ?_; rintro e w3 ⟨a3, rfl, ho3, hb3⟩; have HO3 := Lib.hid ho3; have HB3 := Lib.hid (HB2.out.trans (hb3.mono HB2.out.size)); clear ho3 hb3 C3)
            | (go_at_call 31; refine (C4.out _).mono ?_; rintro e w4 ⟨a4, rfl, ho4, hb4⟩; have HO34 := Lib.hid (ownsRow_below HO3.out hb4); have HB4 := Lib.hid (HB3.out.trans (hb4.mono HB3.out.size)); have k3 := bytesAt_str (bytesAt_row HO34.out); have k4 := bytesAt_str (bytesAt_row ho4); clear ho4 hb4 C4 HO3)
            | (go_at_call 30; refine (C5.out _ (HE.out.below HB4.out) (HX.out.below HE.out.size HB4.out)).mono ?_; rintro e w5 ⟨a5, rfl, ho5, hb5⟩; clear k3 k4; have HO35 := Lib.hid (ownsRow_below HO34.out hb5); have HB5 := Lib.hid (HB4.out.trans (hb5.mono HB4.out.size)); have k5 := bytesAt_str (bytesAt_row ho5); have k0 := bytesAt_str (HF.out.below HB5.out); clear ho5 hb5 C5 HO34)
            | (go_at_call 14; refine (C0.out _ (HE.out.below HB5.out)).mono ?_; rintro e w7 ⟨rfl, hb7⟩; have HB7 := Lib.hid (HB5.out.trans (hb7.mono HB5.out.size)); clear hb7))
          go_ret
          exact ⟨rfl, HB7.out⟩
      · have hb1 : (e1 == 0) = false := beq_eq_false_iff_ne.2 h1
        clear c5 r1 h1
        by_cases h2 : e2 = 0
        · subst h2
          rw [r2 rfl] at c6
          unfold HexPost at c6
          simp only [ba_list] at c6
          have C6 := Lib.hid c6; clear c6 r2
          go_enter Tryz.func8, Tryz.ntmps8
          go_wp2_with (first
            | (go_at_call 28; refine (C1.out _ HE.out HX.out HF.out).mono ?_; rintro e w1 ⟨rfl, hb1⟩; have HB1 := Lib.hid hb1; clear hb1 C1)
            | (go_at_call 29; refine (C2.out _ (HF.out.below HB1.out)).mono ?_; rintro e w2 ⟨rfl, hb2⟩; have HB2 := Lib.hid (HB1.out.trans (hb2.mono HB1.out.size)); clear hb2 C2)
            | (go_at_call 30; refine (C3.out _ (HE.out.below HB2.out) (HX.out.below HE.out.size HB2.out)).mono ?_; rintro e w3 ⟨a3, rfl, ho3, hb3⟩; have HO3 := Lib.hid ho3; have HB3 := Lib.hid (HB2.out.trans (hb3.mono HB2.out.size)); clear ho3 hb3 C3)
            | (go_at_call 31; refine (C4.out _).mono ?_; rintro e w4 ⟨a4, rfl, ho4, hb4⟩; have HO34 := Lib.hid (ownsRow_below HO3.out hb4); have HB4 := Lib.hid (HB3.out.trans (hb4.mono HB3.out.size)); have k3 := bytesAt_str (bytesAt_row HO34.out); have k4 := bytesAt_str (bytesAt_row ho4); clear ho4 hb4 C4 HO3)
            | (go_at_call 28; refine (C6.out _ _ (HE.out.below HB4.out) (HX.out.below HE.out.size HB4.out) (bytesAt_row HO34.out)).mono ?_; rintro e w6 ⟨rfl, hb6⟩; have HB6 := Lib.hid (HB4.out.trans (hb6.mono HB4.out.size)); clear hb6 C6)
            | (go_at_call 14; refine (C0.out _ (HE.out.below HB6.out)).mono ?_; rintro e w7 ⟨rfl, hb7⟩; have HB7 := Lib.hid (HB6.out.trans (hb7.mono HB6.out.size)); clear hb7))
          go_ret
          exact ⟨rfl, HB7.out⟩
        · have hb2 : (e2 == 0) = false := beq_eq_false_iff_ne.2 h2
          clear c6 r2 h2
          go_enter Tryz.func8, Tryz.ntmps8
          go_wp2_with (first
            | (go_at_call 28; refine (C1.out _ HE.out HX.out HF.out).mono ?_; rintro e w1 ⟨rfl, hb1⟩; have HB1 := Lib.hid hb1; clear hb1 C1)
            | (go_at_call 29; refine (C2.out _ (HF.out.below HB1.out)).mono ?_; rintro e w2 ⟨rfl, hb2⟩; have HB2 := Lib.hid (HB1.out.trans (hb2.mono HB1.out.size)); clear hb2 C2)
            | (go_at_call 30; refine (C3.out _ (HE.out.below HB2.out) (HX.out.below HE.out.size HB2.out)).mono ?_; rintro e w3 ⟨a3, rfl, ho3, hb3⟩; have HO3 := Lib.hid ho3; have HB3 := Lib.hid (HB2.out.trans (hb3.mono HB2.out.size)); clear ho3 hb3 C3)
            | (go_at_call 31; refine (C4.out _).mono ?_; rintro e w4 ⟨a4, rfl, ho4, hb4⟩; have HO34 := Lib.hid (ownsRow_below HO3.out hb4); have HB4 := Lib.hid (HB3.out.trans (hb4.mono HB3.out.size)); have k3 := bytesAt_str (bytesAt_row HO34.out); have k4 := bytesAt_str (bytesAt_row ho4); clear ho4 hb4 C4 HO3)
            | (go_at_call 14; refine (C0.out _ (HE.out.below HB4.out)).mono ?_; rintro e w7 ⟨rfl, hb7⟩; have HB7 := Lib.hid (HB4.out.trans (hb7.mono HB4.out.size)); clear hb7))
          go_ret
          exact ⟨rfl, HB7.out⟩
end Go.Proofs.YtboigkmaccdkpaaGreatDoor
