/- The reference's find, First, Best. -/
import Derived.Test.YtnhbilcpdombfaaSpReg
import Derived.Test.YtnhbilcpdombfaaSpBest
namespace Go.Proofs.Ytnhbilcpdombfaa
open Go.RowKit

/-- What find's variable says of the span found so far. -/
def FoundAt (best : Bool) (m al : Nat) (s : List (Nat × Nat)) (j : Nat) (v : Value) : Prop :=
  (v = .int .i64 (-1) ∧ foundX best m al (s.take j) = none) ∨ ∃ k, ∃ hk : k < s.length, k < j ∧ v = .int .i64 (k : Int) ∧ foundX best m al (s.take j) = some (s[k]'hk)
set_option maxHeartbeats 8000000 in
set_option maxRecDepth 100000 in
theorem rfind_in (best : Bool) (p : Option Addr) (cap : Nat) (s : List (Nat × Nat)) (m al : Nat) (w : World) (h : SpsAt w p (up s)) (hs : IsSet 1024 s) (hl : s.length ≤ 512) (hm1 : 1 ≤ m) (hm : m ≤ 1024) (ha1 : 1 ≤ al) (ha2 : al ≤ 1024) (hpw : powI (al : Int) = true)
    (hck : ∀ W, Below w.heap.size w W → Calls Try.prog 16 #[.slice p s.length cap] W fun e w' => e = .returned (.int .i64 0) ∧ Below W.heap.size W w') :
    Calls Try.prog 64 #[.slice p s.length cap, .int .i64 (m : Int), .int .i64 (al : Int), .bool best] w (IntErr (foundR al (foundX best m al s)) w) := by
  have HCK := Lib.hid hck; have HW := Lib.hid h; have HS := Lib.hid hs
  have PW := Lib.hid (fun W => rpower_any (al : Int) W)
  rw [hpw] at PW
  obtain ⟨r, hr⟩ : ∃ r, r = foundR al (foundX best m al s) := ⟨_, rfl⟩
  rw [← hr]
  have HR := Lib.hid hr
  have CPL := Lib.hid (fun a b W (hab : a + b ≤ 1024) => rplace_any a b m al W hab hm ha1 ha2)
  clear hck h hs hpw hr
  have m1 : ¬ (m : Int) < 1 := by omega
  have m2 : ¬ (1024 : Int) < (m : Int) := by omega
  go_enter Try.func64, Try.ntmps64
  go_wp2_with (first
    | (go_at_call 16; refine (HCK.out _ (Below.refl _ _)).mono ?_; rintro e w1 ⟨rfl, hb⟩; have HB1 := Lib.hid hb; clear hb HCK)
    | (go_at_call 71; refine (PW.out _).mono ?_; rintro e w2 ⟨rfl, rfl⟩; clear PW))
  have l4 : (s.length : Int) ≤ 512 := by omega
  go_loopg [11, 12] s.length (fun n1 f i W => ∃ j : Nat, j + n1 = s.length ∧ i = .int .i64 j ∧ Below w.heap.size w W ∧ FoundAt best m al s j f)
  case atStart => exact ⟨0, by omega, by go_num, HB1.out, .inl ⟨rfl, rfl⟩⟩
  case round =>
    clear HB1
    obtain ⟨j, hjn, rfl, hbw, hfo⟩ := hrel
    have HBW := Lib.hid hbw; have HFO := Lib.hid hfo
    clear hbw hfo
    have j0 : (0 : Int) ≤ j := by omega
    by_cases hlt : j < s.length
    · obtain ⟨n', rfl⟩ : ∃ n', gk = n' + 1 := ⟨gk - 1, by omega⟩
      obtain ⟨g, off, rfl, hg, hc⟩ := (HW.out.below HBW.out).at_ (by rw [up_len]; omega)
      obtain ⟨x0, x1⟩ := hc j (by rw [up_len]; exact hlt)
      rw [up_get] at x0 x1
      obtain ⟨v1, v2⟩ := HS.out.run _ (List.getElem_mem hlt)
      have htk : s.take (j + 1) = s.take j ++ [s[j]'hlt] := by rw [List.take_add_one, List.getElem?_eq_getElem hlt]; rfl
      have hst : foundX best m al (s.take (j + 1)) = stepX best m al (foundX best m al (s.take j)) (s[j]'hlt) := by rw [htk, found_snoc]
      have i2 : (j : Int) < s.length := by omega
      have CP := Lib.hid (fun W => CPL.out (s[j]'hlt).1 (s[j]'hlt).2 W v2)
      have hpl : placeI m al ((s[j]'hlt).1, (s[j]'hlt).2) = if fitsP m al (s[j]'hlt) then (atP al (s[j]'hlt) : Int) else -1 := rfl
      obtain ⟨pl, hpe⟩ : ∃ pl, pl = placeI m al ((s[j]'hlt).1, (s[j]'hlt).2) := ⟨_, rfl⟩
      rw [← hpe] at CP hpl
      unfold ErrPost at CP
      have HC := Lib.hid hc; have HST := Lib.hid hst; have HPL := Lib.hid hpl
      obtain ⟨a, haa⟩ : ∃ a, a = (s[j]'hlt).1 := ⟨_, rfl⟩
      obtain ⟨b, hbb⟩ : ∃ b, b = (s[j]'hlt).2 := ⟨_, rfl⟩
      rw [← haa] at x0 CP
      rw [← hbb] at x1 CP
      have HBB := Lib.hid hbb
      clear hc htk hst hpl hpe v1 v2 haa hbb
      by_cases hfit : fitsP m al (s[j]'hlt) = true
      · have hp0 : pl = (atP al (s[j]'hlt) : Int) := by rw [HPL.out, if_pos hfit]
        have tp : (0 : Int) ≤ pl := by omega
        have HF := Lib.hid hfit
        clear hp0 hfit HPL
        rcases HFO.out with ⟨rfl, hn⟩ | ⟨k, hk, hkj, rfl, hn⟩
        · have HST := Lib.hid (show foundX best m al (s.take (j + 1)) = some (s[j]'hlt) by rw [HST.out, hn]; unfold stepX; rw [if_pos HF.out])
          clear hn
          have tf : True := trivial
          go_wp2_with fail
          obtain ⟨wv, rfl⟩ : ∃ wv : World, wv = wr := ⟨_, rfl⟩
          refine region_q (C := fun w' => Below wv.heap.size wv w') (by kernel_rfl) (by kernel_rfl) (drewOne _ _) ?_
          refine q_want rfl (fun K hK => BigFrame.quiet_move _ rfl (hK _ ?_)); clear hK K; go_simp
          refine q_want rfl (fun K hK => BigFrame.quiet_move _ rfl (hK _ ?_)); clear hK K; go_simp
          refine q_want rfl (fun K hK => ⟨.pointer (some ⟨g, off + j * 2, none⟩), fun w' hw' => ?_, hK _ ?_⟩)
          · unfold Oper.quietAt
            simp [go_sem, Oper.quietUpon, i2, j0]
          clear hK K; go_simp
          refine q_want rfl (fun K hK => ⟨.agg #[.int .i64 (a : Int), .int .i64 (b : Int)], fun w' hw' => ?_, hK _ ?_⟩)
          · have f0 := (hw'.cell (World.block_lt_of_cell? _ _ x0)).trans x0
            have f1 := (hw'.cell (World.block_lt_of_cell? _ _ x1)).trans x1
            unfold Oper.quietAt
            simp [go_sem, Oper.quietUpon, f0, f1]
          clear hK K; go_simp
          refine q_want rfl (fun K hK => BigFrame.quiet_move _ rfl (hK _ ?_)); clear hK K; go_simp
          refine q_want rfl (fun K hK => BigFrame.quiet_move _ rfl (hK _ ?_)); clear hK K; go_simp
          refine q_want rfl (fun K hK => ⟨.int .i64 pl, fun w' hw' => ?_, hK _ ?_⟩)
          · unfold Oper.quietAt
            simp [go_sem, Oper.quietUpon]
            refine (CP.out _).mono ?_
            rintro e' wz ⟨rfl, hb⟩
            exact ⟨rfl, hw'.trans (hb.mono hw'.size)⟩
          clear hK K; go_simp
          refine q_want rfl (fun K hK => ⟨.bool true, fun w' hw' => ?_, hK _ ?_⟩)
          · unfold Oper.quietAt
            simp [go_sem, Oper.quietUpon, tp]
          clear hK K; go_simp
          refine q_want rfl (fun K hK => BigFrame.quiet_move _ rfl (hK _ ?_)); clear hK K; go_simp
          refine q_want rfl (fun K hK => BigFrame.quiet_move _ rfl (hK _ ?_)); clear hK K; go_simp
          refine q_want rfl (fun K hK => ⟨.bool true, fun w' hw' => ?_, hK _ ?_⟩)
          · unfold Oper.quietAt
            simp [go_sem, Oper.quietUpon, tf]
          clear hK K; go_simp
          refine q_want rfl (fun K hK => BigFrame.quiet_move _ rfl (hK _ ?_)); clear hK K; go_simp
          refine q_skip rfl ?_; go_simp
          refine q_skip rfl ?_; go_simp
          refine q_skip rfl ?_; go_simp
          refine q_skip rfl ?_; go_simp
          refine q_skip rfl ?_; go_simp
          refine q_skip rfl ?_; go_simp
          refine q_skip rfl ?_; go_simp
          refine q_skip rfl ?_; go_simp
          refine q_skip rfl ?_; go_simp
          refine q_skip rfl ?_; go_simp
          refine q_skip rfl ?_; go_simp
          refine q_skip rfl ?_; go_simp
          refine q_skip rfl ?_; go_simp
          refine q_skip rfl ?_; go_simp
          refine q_want rfl (fun K hK => ⟨.bool true, fun w' hw' => ?_, hK _ ?_⟩)
          · unfold Oper.quietAt
            simp [go_sem, Oper.quietUpon]
          clear hK K; go_simp
          refine q_want rfl (fun K hK => ⟨.bool true, fun w' hw' => ?_, hK _ ?_⟩)
          · unfold Oper.quietAt
            simp [go_sem, Oper.quietUpon]
          clear hK K; go_simp
          refine q_nil ?_
          intro w1 hb
          have HB1 := Lib.hid (below_next HBW.out hb)
          clear hb x0 x1
          go_wp2_with fail
          go_roundg n'
          case measure => omega
          case rel => exact ⟨j + 1, by omega, by go_num, HB1.out, .inr ⟨j, hlt, by omega, by go_num, by rw [HST.out]⟩⟩
        · have hstep : stepX best m al (some (s[k]'hk)) (s[j]'hlt) = if best && decide ((s[j]'hlt).2 < (s[k]'hk).2) then some (s[j]'hlt) else some (s[k]'hk) := by unfold stepX; rw [if_pos HF.out]
          rw [← HBB.out] at hstep
          have y1 := (HC.out k (by rw [up_len]; exact hk)).2
          rw [up_get] at y1
          have k0 : (0 : Int) ≤ k := by omega
          have i3 : (k : Int) < s.length := by omega
          have tf : ¬ (k : Int) < 0 := by omega
          obtain ⟨d, hd⟩ : ∃ d, d = (s[k]'hk).2 := ⟨_, rfl⟩
          rw [← hd] at y1 hstep
          have hst2 := HST.out
          rw [hn, hstep] at hst2
          clear hstep hd hn
          cases best
          · have HST := Lib.hid (show foundX false m al (s.take (j + 1)) = some (s[k]'hk) by rw [hst2]; rfl)
            clear hst2 y1
            go_wp2_with fail
            obtain ⟨wv, rfl⟩ : ∃ wv : World, wv = wr := ⟨_, rfl⟩
            refine region_q (C := fun w' => Below wv.heap.size wv w') (by kernel_rfl) (by kernel_rfl) (drewOne _ _) ?_
            refine q_want rfl (fun K hK => BigFrame.quiet_move _ rfl (hK _ ?_)); clear hK K; go_simp
            refine q_want rfl (fun K hK => BigFrame.quiet_move _ rfl (hK _ ?_)); clear hK K; go_simp
            refine q_want rfl (fun K hK => ⟨.pointer (some ⟨g, off + j * 2, none⟩), fun w' hw' => ?_, hK _ ?_⟩)
            · unfold Oper.quietAt
              simp [go_sem, Oper.quietUpon, i2, j0]
            clear hK K; go_simp
            refine q_want rfl (fun K hK => ⟨.agg #[.int .i64 (a : Int), .int .i64 (b : Int)], fun w' hw' => ?_, hK _ ?_⟩)
            · have f0 := (hw'.cell (World.block_lt_of_cell? _ _ x0)).trans x0
              have f1 := (hw'.cell (World.block_lt_of_cell? _ _ x1)).trans x1
              unfold Oper.quietAt
              simp [go_sem, Oper.quietUpon, f0, f1]
            clear hK K; go_simp
            refine q_want rfl (fun K hK => BigFrame.quiet_move _ rfl (hK _ ?_)); clear hK K; go_simp
            refine q_want rfl (fun K hK => BigFrame.quiet_move _ rfl (hK _ ?_)); clear hK K; go_simp
            refine q_want rfl (fun K hK => ⟨.int .i64 pl, fun w' hw' => ?_, hK _ ?_⟩)
            · unfold Oper.quietAt
              simp [go_sem, Oper.quietUpon]
              refine (CP.out _).mono ?_
              rintro e' wz ⟨rfl, hb⟩
              exact ⟨rfl, hw'.trans (hb.mono hw'.size)⟩
            clear hK K; go_simp
            refine q_want rfl (fun K hK => ⟨.bool true, fun w' hw' => ?_, hK _ ?_⟩)
            · unfold Oper.quietAt
              simp [go_sem, Oper.quietUpon, tp]
            clear hK K; go_simp
            refine q_want rfl (fun K hK => BigFrame.quiet_move _ rfl (hK _ ?_)); clear hK K; go_simp
            refine q_want rfl (fun K hK => BigFrame.quiet_move _ rfl (hK _ ?_)); clear hK K; go_simp
            refine q_want rfl (fun K hK => ⟨.bool false, fun w' hw' => ?_, hK _ ?_⟩)
            · unfold Oper.quietAt
              simp [go_sem, Oper.quietUpon, tf]
            clear hK K; go_simp
            refine q_want rfl (fun K hK => BigFrame.quiet_move _ rfl (hK _ ?_)); clear hK K; go_simp
            refine q_want rfl (fun K hK => BigFrame.quiet_move _ rfl (hK _ ?_)); clear hK K; go_simp
            refine q_want rfl (fun K hK => BigFrame.quiet_move _ rfl (hK _ ?_)); clear hK K; go_simp
            refine q_skip rfl ?_; go_simp
            refine q_skip rfl ?_; go_simp
            refine q_skip rfl ?_; go_simp
            refine q_skip rfl ?_; go_simp
            refine q_skip rfl ?_; go_simp
            refine q_skip rfl ?_; go_simp
            refine q_skip rfl ?_; go_simp
            refine q_skip rfl ?_; go_simp
            refine q_skip rfl ?_; go_simp
            refine q_skip rfl ?_; go_simp
            refine q_skip rfl ?_; go_simp
            refine q_want rfl (fun K hK => ⟨.bool false, fun w' hw' => ?_, hK _ ?_⟩)
            · unfold Oper.quietAt
              simp [go_sem, Oper.quietUpon]
            clear hK K; go_simp
            refine q_want rfl (fun K hK => ⟨.bool false, fun w' hw' => ?_, hK _ ?_⟩)
            · unfold Oper.quietAt
              simp [go_sem, Oper.quietUpon]
            clear hK K; go_simp
            refine q_want rfl (fun K hK => ⟨.bool false, fun w' hw' => ?_, hK _ ?_⟩)
            · unfold Oper.quietAt
              simp [go_sem, Oper.quietUpon]
            clear hK K; go_simp
            refine q_nil ?_
            intro w1 hb
            have HB1 := Lib.hid (below_next HBW.out hb)
            clear hb x0 x1
            go_wp2_with fail
            go_roundg n'
            case measure => omega
            case rel => exact ⟨j + 1, by omega, by go_num, HB1.out, .inr ⟨k, hk, by omega, rfl, HST.out⟩⟩
          · by_cases hls : b < d
            · have HST := Lib.hid (show foundX true m al (s.take (j + 1)) = some (s[j]'hlt) by rw [hst2, decide_eq_true hls]; rfl)
              have tl : (b : Int) < (d : Int) := by omega
              clear hst2
              go_wp2_with fail
              obtain ⟨wv, rfl⟩ : ∃ wv : World, wv = wr := ⟨_, rfl⟩
              refine region_q (C := fun w' => Below wv.heap.size wv w') (by kernel_rfl) (by kernel_rfl) (drewOne _ _) ?_
              refine q_want rfl (fun K hK => BigFrame.quiet_move _ rfl (hK _ ?_)); clear hK K; go_simp
              refine q_want rfl (fun K hK => BigFrame.quiet_move _ rfl (hK _ ?_)); clear hK K; go_simp
              refine q_want rfl (fun K hK => ⟨.pointer (some ⟨g, off + j * 2, none⟩), fun w' hw' => ?_, hK _ ?_⟩)
              · unfold Oper.quietAt
                simp [go_sem, Oper.quietUpon, i2, j0]
              clear hK K; go_simp
              refine q_want rfl (fun K hK => ⟨.agg #[.int .i64 (a : Int), .int .i64 (b : Int)], fun w' hw' => ?_, hK _ ?_⟩)
              · have f0 := (hw'.cell (World.block_lt_of_cell? _ _ x0)).trans x0
                have f1 := (hw'.cell (World.block_lt_of_cell? _ _ x1)).trans x1
                unfold Oper.quietAt
                simp [go_sem, Oper.quietUpon, f0, f1]
              clear hK K; go_simp
              refine q_want rfl (fun K hK => BigFrame.quiet_move _ rfl (hK _ ?_)); clear hK K; go_simp
              refine q_want rfl (fun K hK => BigFrame.quiet_move _ rfl (hK _ ?_)); clear hK K; go_simp
              refine q_want rfl (fun K hK => ⟨.int .i64 pl, fun w' hw' => ?_, hK _ ?_⟩)
              · unfold Oper.quietAt
                simp [go_sem, Oper.quietUpon]
                refine (CP.out _).mono ?_
                rintro e' wz ⟨rfl, hb⟩
                exact ⟨rfl, hw'.trans (hb.mono hw'.size)⟩
              clear hK K; go_simp
              refine q_want rfl (fun K hK => ⟨.bool true, fun w' hw' => ?_, hK _ ?_⟩)
              · unfold Oper.quietAt
                simp [go_sem, Oper.quietUpon, tp]
              clear hK K; go_simp
              refine q_want rfl (fun K hK => BigFrame.quiet_move _ rfl (hK _ ?_)); clear hK K; go_simp
              refine q_want rfl (fun K hK => BigFrame.quiet_move _ rfl (hK _ ?_)); clear hK K; go_simp
              refine q_want rfl (fun K hK => ⟨.bool false, fun w' hw' => ?_, hK _ ?_⟩)
              · unfold Oper.quietAt
                simp [go_sem, Oper.quietUpon, tf]
              clear hK K; go_simp
              refine q_want rfl (fun K hK => BigFrame.quiet_move _ rfl (hK _ ?_)); clear hK K; go_simp
              refine q_want rfl (fun K hK => BigFrame.quiet_move _ rfl (hK _ ?_)); clear hK K; go_simp
              refine q_want rfl (fun K hK => BigFrame.quiet_move _ rfl (hK _ ?_)); clear hK K; go_simp
              refine q_want rfl (fun K hK => BigFrame.quiet_move _ rfl (hK _ ?_)); clear hK K; go_simp
              refine q_want rfl (fun K hK => BigFrame.quiet_move _ rfl (hK _ ?_)); clear hK K; go_simp
              refine q_want rfl (fun K hK => ⟨.pointer (some ⟨g, off + j * 2, none⟩), fun w' hw' => ?_, hK _ ?_⟩)
              · unfold Oper.quietAt
                simp [go_sem, Oper.quietUpon, i2, j0]
              clear hK K; go_simp
              refine q_want rfl (fun K hK => ⟨.pointer (some ⟨g, off + j * 2 + 1, none⟩), fun w' hw' => ?_, hK _ ?_⟩)
              · unfold Oper.quietAt
                simp [go_sem, Oper.quietUpon]
              clear hK K; go_simp
              refine q_want rfl (fun K hK => ⟨.int .i64 (b : Int), fun w' hw' => ?_, hK _ ?_⟩)
              · have f1 := (hw'.cell (World.block_lt_of_cell? _ _ x1)).trans x1
                unfold Oper.quietAt
                simp [go_sem, Oper.quietUpon, f1]
              clear hK K; go_simp
              refine q_want rfl (fun K hK => BigFrame.quiet_move _ rfl (hK _ ?_)); clear hK K; go_simp
              refine q_want rfl (fun K hK => BigFrame.quiet_move _ rfl (hK _ ?_)); clear hK K; go_simp
              refine q_want rfl (fun K hK => ⟨.pointer (some ⟨g, off + k * 2, none⟩), fun w' hw' => ?_, hK _ ?_⟩)
              · unfold Oper.quietAt
                simp [go_sem, Oper.quietUpon, i3, k0]
              clear hK K; go_simp
              refine q_want rfl (fun K hK => ⟨.pointer (some ⟨g, off + k * 2 + 1, none⟩), fun w' hw' => ?_, hK _ ?_⟩)
              · unfold Oper.quietAt
                simp [go_sem, Oper.quietUpon]
              clear hK K; go_simp
              refine q_want rfl (fun K hK => ⟨.int .i64 (d : Int), fun w' hw' => ?_, hK _ ?_⟩)
              · have f1 := (hw'.cell (World.block_lt_of_cell? _ _ y1)).trans y1
                unfold Oper.quietAt
                simp [go_sem, Oper.quietUpon, f1]
              clear hK K; go_simp
              refine q_want rfl (fun K hK => ⟨.bool true, fun w' hw' => ?_, hK _ ?_⟩)
              · unfold Oper.quietAt
                simp [go_sem, Oper.quietUpon, tl]
              clear hK K; go_simp
              refine q_want rfl (fun K hK => ⟨.bool true, fun w' hw' => ?_, hK _ ?_⟩)
              · unfold Oper.quietAt
                simp [go_sem, Oper.quietUpon]
              clear hK K; go_simp
              refine q_want rfl (fun K hK => ⟨.bool true, fun w' hw' => ?_, hK _ ?_⟩)
              · unfold Oper.quietAt
                simp [go_sem, Oper.quietUpon]
              clear hK K; go_simp
              refine q_want rfl (fun K hK => ⟨.bool true, fun w' hw' => ?_, hK _ ?_⟩)
              · unfold Oper.quietAt
                simp [go_sem, Oper.quietUpon]
              clear hK K; go_simp
              refine q_nil ?_
              intro w1 hb
              have HB1 := Lib.hid (below_next HBW.out hb)
              clear hb x0 x1
              go_wp2_with fail
              go_roundg n'
              case measure => omega
              case rel => exact ⟨j + 1, by omega, by go_num, HB1.out, .inr ⟨j, hlt, by omega, by go_num, by rw [HST.out]⟩⟩
            · have HST := Lib.hid (show foundX true m al (s.take (j + 1)) = some (s[k]'hk) by rw [hst2, decide_eq_false hls]; rfl)
              have tl : ¬ (b : Int) < (d : Int) := by omega
              clear hst2
              go_wp2_with fail
              obtain ⟨wv, rfl⟩ : ∃ wv : World, wv = wr := ⟨_, rfl⟩
              refine region_q (C := fun w' => Below wv.heap.size wv w') (by kernel_rfl) (by kernel_rfl) (drewOne _ _) ?_
              refine q_want rfl (fun K hK => BigFrame.quiet_move _ rfl (hK _ ?_)); clear hK K; go_simp
              refine q_want rfl (fun K hK => BigFrame.quiet_move _ rfl (hK _ ?_)); clear hK K; go_simp
              refine q_want rfl (fun K hK => ⟨.pointer (some ⟨g, off + j * 2, none⟩), fun w' hw' => ?_, hK _ ?_⟩)
              · unfold Oper.quietAt
                simp [go_sem, Oper.quietUpon, i2, j0]
              clear hK K; go_simp
              refine q_want rfl (fun K hK => ⟨.agg #[.int .i64 (a : Int), .int .i64 (b : Int)], fun w' hw' => ?_, hK _ ?_⟩)
              · have f0 := (hw'.cell (World.block_lt_of_cell? _ _ x0)).trans x0
                have f1 := (hw'.cell (World.block_lt_of_cell? _ _ x1)).trans x1
                unfold Oper.quietAt
                simp [go_sem, Oper.quietUpon, f0, f1]
              clear hK K; go_simp
              refine q_want rfl (fun K hK => BigFrame.quiet_move _ rfl (hK _ ?_)); clear hK K; go_simp
              refine q_want rfl (fun K hK => BigFrame.quiet_move _ rfl (hK _ ?_)); clear hK K; go_simp
              refine q_want rfl (fun K hK => ⟨.int .i64 pl, fun w' hw' => ?_, hK _ ?_⟩)
              · unfold Oper.quietAt
                simp [go_sem, Oper.quietUpon]
                refine (CP.out _).mono ?_
                rintro e' wz ⟨rfl, hb⟩
                exact ⟨rfl, hw'.trans (hb.mono hw'.size)⟩
              clear hK K; go_simp
              refine q_want rfl (fun K hK => ⟨.bool true, fun w' hw' => ?_, hK _ ?_⟩)
              · unfold Oper.quietAt
                simp [go_sem, Oper.quietUpon, tp]
              clear hK K; go_simp
              refine q_want rfl (fun K hK => BigFrame.quiet_move _ rfl (hK _ ?_)); clear hK K; go_simp
              refine q_want rfl (fun K hK => BigFrame.quiet_move _ rfl (hK _ ?_)); clear hK K; go_simp
              refine q_want rfl (fun K hK => ⟨.bool false, fun w' hw' => ?_, hK _ ?_⟩)
              · unfold Oper.quietAt
                simp [go_sem, Oper.quietUpon, tf]
              clear hK K; go_simp
              refine q_want rfl (fun K hK => BigFrame.quiet_move _ rfl (hK _ ?_)); clear hK K; go_simp
              refine q_want rfl (fun K hK => BigFrame.quiet_move _ rfl (hK _ ?_)); clear hK K; go_simp
              refine q_want rfl (fun K hK => BigFrame.quiet_move _ rfl (hK _ ?_)); clear hK K; go_simp
              refine q_want rfl (fun K hK => BigFrame.quiet_move _ rfl (hK _ ?_)); clear hK K; go_simp
              refine q_want rfl (fun K hK => BigFrame.quiet_move _ rfl (hK _ ?_)); clear hK K; go_simp
              refine q_want rfl (fun K hK => ⟨.pointer (some ⟨g, off + j * 2, none⟩), fun w' hw' => ?_, hK _ ?_⟩)
              · unfold Oper.quietAt
                simp [go_sem, Oper.quietUpon, i2, j0]
              clear hK K; go_simp
              refine q_want rfl (fun K hK => ⟨.pointer (some ⟨g, off + j * 2 + 1, none⟩), fun w' hw' => ?_, hK _ ?_⟩)
              · unfold Oper.quietAt
                simp [go_sem, Oper.quietUpon]
              clear hK K; go_simp
              refine q_want rfl (fun K hK => ⟨.int .i64 (b : Int), fun w' hw' => ?_, hK _ ?_⟩)
              · have f1 := (hw'.cell (World.block_lt_of_cell? _ _ x1)).trans x1
                unfold Oper.quietAt
                simp [go_sem, Oper.quietUpon, f1]
              clear hK K; go_simp
              refine q_want rfl (fun K hK => BigFrame.quiet_move _ rfl (hK _ ?_)); clear hK K; go_simp
              refine q_want rfl (fun K hK => BigFrame.quiet_move _ rfl (hK _ ?_)); clear hK K; go_simp
              refine q_want rfl (fun K hK => ⟨.pointer (some ⟨g, off + k * 2, none⟩), fun w' hw' => ?_, hK _ ?_⟩)
              · unfold Oper.quietAt
                simp [go_sem, Oper.quietUpon, i3, k0]
              clear hK K; go_simp
              refine q_want rfl (fun K hK => ⟨.pointer (some ⟨g, off + k * 2 + 1, none⟩), fun w' hw' => ?_, hK _ ?_⟩)
              · unfold Oper.quietAt
                simp [go_sem, Oper.quietUpon]
              clear hK K; go_simp
              refine q_want rfl (fun K hK => ⟨.int .i64 (d : Int), fun w' hw' => ?_, hK _ ?_⟩)
              · have f1 := (hw'.cell (World.block_lt_of_cell? _ _ y1)).trans y1
                unfold Oper.quietAt
                simp [go_sem, Oper.quietUpon, f1]
              clear hK K; go_simp
              refine q_want rfl (fun K hK => ⟨.bool false, fun w' hw' => ?_, hK _ ?_⟩)
              · unfold Oper.quietAt
                simp [go_sem, Oper.quietUpon, tl]
                omega
              clear hK K; go_simp
              refine q_want rfl (fun K hK => ⟨.bool false, fun w' hw' => ?_, hK _ ?_⟩)
              · unfold Oper.quietAt
                simp [go_sem, Oper.quietUpon]
              clear hK K; go_simp
              refine q_want rfl (fun K hK => ⟨.bool false, fun w' hw' => ?_, hK _ ?_⟩)
              · unfold Oper.quietAt
                simp [go_sem, Oper.quietUpon]
              clear hK K; go_simp
              refine q_want rfl (fun K hK => ⟨.bool false, fun w' hw' => ?_, hK _ ?_⟩)
              · unfold Oper.quietAt
                simp [go_sem, Oper.quietUpon]
              clear hK K; go_simp
              refine q_nil ?_
              intro w1 hb
              have HB1 := Lib.hid (below_next HBW.out hb)
              clear hb x0 x1
              go_wp2_with fail
              go_roundg n'
              case measure => omega
              case rel => exact ⟨j + 1, by omega, by go_num, HB1.out, .inr ⟨k, hk, by omega, rfl, HST.out⟩⟩
      · have hp0 : pl = -1 := by rw [HPL.out, if_neg hfit]
        have tp : ¬ (0 : Int) ≤ pl := by omega
        have hst2 : foundX best m al (s.take (j + 1)) = foundX best m al (s.take j) := by rw [HST.out]; unfold stepX; rw [if_neg hfit]
        have HFN := Lib.hid (show FoundAt best m al s (j + 1) _ from by
          unfold FoundAt
          rw [hst2]
          rcases HFO.out with h | ⟨k, hk, hkj, e, hn⟩
          · exact .inl h
          · exact .inr ⟨k, hk, by omega, e, hn⟩)
        clear hp0 hfit HPL hst2
        go_wp2_with fail
        obtain ⟨wv, rfl⟩ : ∃ wv : World, wv = wr := ⟨_, rfl⟩
        refine region_q (C := fun w' => Below wv.heap.size wv w') (by kernel_rfl) (by kernel_rfl) (drewOne _ _) ?_
        refine q_want rfl (fun K hK => BigFrame.quiet_move _ rfl (hK _ ?_)); clear hK K; go_simp
        refine q_want rfl (fun K hK => BigFrame.quiet_move _ rfl (hK _ ?_)); clear hK K; go_simp
        refine q_want rfl (fun K hK => ⟨.pointer (some ⟨g, off + j * 2, none⟩), fun w' hw' => ?_, hK _ ?_⟩)
        · unfold Oper.quietAt
          simp [go_sem, Oper.quietUpon, i2, j0]
        clear hK K; go_simp
        refine q_want rfl (fun K hK => ⟨.agg #[.int .i64 (a : Int), .int .i64 (b : Int)], fun w' hw' => ?_, hK _ ?_⟩)
        · have f0 := (hw'.cell (World.block_lt_of_cell? _ _ x0)).trans x0
          have f1 := (hw'.cell (World.block_lt_of_cell? _ _ x1)).trans x1
          unfold Oper.quietAt
          simp [go_sem, Oper.quietUpon, f0, f1]
        clear hK K; go_simp
        refine q_want rfl (fun K hK => BigFrame.quiet_move _ rfl (hK _ ?_)); clear hK K; go_simp
        refine q_want rfl (fun K hK => BigFrame.quiet_move _ rfl (hK _ ?_)); clear hK K; go_simp
        refine q_want rfl (fun K hK => ⟨.int .i64 pl, fun w' hw' => ?_, hK _ ?_⟩)
        · unfold Oper.quietAt
          simp [go_sem, Oper.quietUpon]
          refine (CP.out _).mono ?_
          rintro e' wz ⟨rfl, hb⟩
          exact ⟨rfl, hw'.trans (hb.mono hw'.size)⟩
        clear hK K; go_simp
        refine q_want rfl (fun K hK => ⟨.bool false, fun w' hw' => ?_, hK _ ?_⟩)
        · unfold Oper.quietAt
          simp [go_sem, Oper.quietUpon, tp]
        clear hK K; go_simp
        refine q_want rfl (fun K hK => BigFrame.quiet_move _ rfl (hK _ ?_)); clear hK K; go_simp
        refine q_skip rfl ?_; go_simp
        refine q_skip rfl ?_; go_simp
        refine q_skip rfl ?_; go_simp
        refine q_skip rfl ?_; go_simp
        refine q_skip rfl ?_; go_simp
        refine q_skip rfl ?_; go_simp
        refine q_skip rfl ?_; go_simp
        refine q_skip rfl ?_; go_simp
        refine q_skip rfl ?_; go_simp
        refine q_skip rfl ?_; go_simp
        refine q_skip rfl ?_; go_simp
        refine q_skip rfl ?_; go_simp
        refine q_skip rfl ?_; go_simp
        refine q_skip rfl ?_; go_simp
        refine q_skip rfl ?_; go_simp
        refine q_skip rfl ?_; go_simp
        refine q_skip rfl ?_; go_simp
        refine q_skip rfl ?_; go_simp
        refine q_want rfl (fun K hK => ⟨.bool false, fun w' hw' => ?_, hK _ ?_⟩)
        · unfold Oper.quietAt
          simp [go_sem, Oper.quietUpon]
        clear hK K; go_simp
        refine q_nil ?_
        intro w1 hb
        have HB1 := Lib.hid (below_next HBW.out hb)
        clear hb x0 x1
        go_wp2_with fail
        go_roundg n'
        case measure => omega
        case rel => exact ⟨j + 1, by omega, by go_num, HB1.out, HFN.out⟩
    · obtain rfl : j = s.length := by omega
      have i2 : ¬ ((s.length : Nat) : Int) < s.length := by omega
      have hfo := HFO.out
      unfold FoundAt at hfo
      rw [List.take_length] at hfo
      rcases hfo with ⟨rfl, hn⟩ | ⟨k, hk, hkj, rfl, hn⟩
      · have HF := Lib.hid (show r = (0, 4) by rw [HR.out, hn]; rfl)
        clear hn
        go_wp2_with fail
        go_ret2
        exact intErr_mk HF.out HBW.out
      · have hF := (HR.out).trans (by rw [hn])
        obtain ⟨g, off, rfl, hg, hc⟩ := (HW.out.below HBW.out).at_ (by rw [up_len]; omega)
        obtain ⟨x0, x1⟩ := hc k (by rw [up_len]; exact hk)
        rw [up_get] at x0 x1
        obtain ⟨v1, v2⟩ := HS.out.run _ (List.getElem_mem hk)
        have hfit := (found_mem hn).2
        have CP := Lib.hid (fun W => CPL.out (s[k]'hk).1 (s[k]'hk).2 W v2)
        have hpl : placeI m al ((s[k]'hk).1, (s[k]'hk).2) = (atP al (s[k]'hk) : Int) := by unfold placeI; rw [if_pos hfit]
        rw [hpl] at CP
        unfold ErrPost at CP
        have HF := Lib.hid (show r = ((atP al (s[k]'hk) : Int), 0) from hF)
        generalize (atP al (s[k]'hk) : Int) = pl at CP HF
        generalize (s[k]'hk).1 = a at x0 CP
        generalize (s[k]'hk).2 = b at x1 CP
        have k0 : (0 : Int) ≤ k := by omega
        have i3 : (k : Int) < s.length := by omega
        have tf : ¬ (k : Int) < 0 := by omega
        clear hn hF hc v1 v2 hpl hfit
        go_wp2_with fail
        refine (CP.out _).mono ?_
        rintro e w2 ⟨rfl, hb⟩
        have HB2 := Lib.hid (below_next HBW.out hb)
        clear hb
        go_wp2_with fail
        go_ret2
        exact intErr_mk HF.out HB2.out
set_option maxHeartbeats 4000000 in
set_option maxRecDepth 100000 in
theorem rfind_any (best : Bool) (l : List (Int × Int)) (p : Option Addr) (cap : Nat) (pages align : Int) (w : World) (h : SpsAt w p l) :
    Calls Try.prog 64 #[.slice p l.length cap, .int .i64 pages, .int .i64 align, .bool best] w (IntErr (if placeE l pages align ≠ 0 then (0, placeE l pages align) else foundR align.toNat (foundX best pages.toNat align.toNat (down l))) w) := by
  have ck := fun W (hW : Below w.heap.size w W) => rcheck_any l p cap W (h.below hW)
  have hok := placeE_ok (s := l) (pages := pages) (align := align)
  have hpe := placeE_eq l pages align
  unfold ErrPost at ck
  by_cases hc : placeE l pages align = 0
  · obtain ⟨h1, h2, h3, k, hk, rfl⟩ := hok hc
    rw [if_neg (by rw [hc]; simp)]
    obtain ⟨hv, hset, hl⟩ := check_set h1
    obtain ⟨m, rfl⟩ : ∃ m : Nat, pages = (m : Int) := ⟨pages.toNat, by omega⟩
    have a1 : 1 ≤ 2 ^ k := Nat.one_le_two_pow
    have a2 : 2 ^ k ≤ 1024 := by
      have : 2 ^ k ≤ 2 ^ 10 := Nat.pow_le_pow_right (by omega) hk
      simpa using this
    have hpw : powI ((2 ^ k : Nat) : Int) = true := by
      unfold powI; rw [List.any_eq_true]; exact ⟨k, List.mem_range.2 (by omega), by simp⟩
    rw [Int.toNat_natCast, Int.toNat_natCast]
    rw [h1] at ck
    have := rfind_in best p cap (down l) m (2 ^ k) w (by rw [up_down hv]; exact h) hset (by rw [down_len]; exact hl) (by omega) (by omega) a1 a2 hpw (by rw [down_len]; exact ck)
    rw [down_len] at this
    exact this
  · rw [if_pos hc]
    have PW := Lib.hid (fun W => rpower_any align W)
    generalize placeE l pages align = c at hpe hc
    obtain ⟨t1, t2⟩ := neq0 hc
    clear h hok hc
    by_cases h1 : checkR l ≠ 0
    · rw [if_pos h1] at hpe
      rw [← hpe] at ck
      have CK := Lib.hid ck
      clear ck hpe h1 PW
      go_enter Try.func64, Try.ntmps64
      go_wp2_with (go_at_call 16; refine (CK.out _ (Below.refl _ _)).mono ?_; rintro e w1 ⟨rfl, hb⟩; have HB1 := Lib.hid hb; clear hb)
      go_ret2
      exact ⟨rfl, HB1.out⟩
    · rw [if_neg h1] at hpe
      rw [Decidable.not_not.1 h1] at ck
      have CK := Lib.hid ck
      clear ck h1
      by_cases h2 : pages < 1
      · rw [if_pos (Or.inl h2)] at hpe
        subst hpe
        clear PW
        go_enter Try.func64, Try.ntmps64
        go_wp2_with (go_at_call 16; refine (CK.out _ (Below.refl _ _)).mono ?_; rintro e w1 ⟨rfl, hb⟩; have HB1 := Lib.hid hb; clear hb)
        go_ret2
        exact ⟨rfl, HB1.out⟩
      · by_cases h3 : 1024 < pages
        · rw [if_pos (Or.inr h3)] at hpe
          subst hpe
          clear PW
          go_enter Try.func64, Try.ntmps64
          go_wp2_with (go_at_call 16; refine (CK.out _ (Below.refl _ _)).mono ?_; rintro e w1 ⟨rfl, hb⟩; have HB1 := Lib.hid hb; clear hb)
          go_ret2
          exact ⟨rfl, HB1.out⟩
        · rw [if_neg (by omega)] at hpe
          cases hq : powI align
          · rw [hq, if_neg (by simp)] at hpe
            rw [hq] at PW
            subst hpe
            go_enter Try.func64, Try.ntmps64
            go_wp2_with (first
              | (go_at_call 16; refine (CK.out _ (Below.refl _ _)).mono ?_; rintro e w1 ⟨rfl, hb⟩; have HB1 := Lib.hid hb; clear hb)
              | (go_at_call 71; refine (PW.out _).mono ?_; rintro e w2 ⟨rfl, rfl⟩; clear PW))
            go_ret2
            exact ⟨rfl, HB1.out⟩
          · rw [hq, if_pos rfl] at hpe
            rw [hpe] at t2; simp at t2
set_option maxRecDepth 100000 in
theorem rFirst_any (l : List (Int × Int)) (p : Option Addr) (cap : Nat) (pages align : Int) (w : World) (h : SpsAt w p l) :
    Calls Try.prog 33 #[.slice p l.length cap, .int .i64 pages, .int .i64 align] w (IntErr (firstR l pages align) w) := by
  have c := rfind_any false l p cap pages align w h
  unfold firstR
  rw [firstL_found]
  unfold IntErr at c ⊢
  generalize (if placeE l pages align ≠ 0 then (0, placeE l pages align) else foundR align.toNat (foundX false pages.toNat align.toNat (down l))) = r at c ⊢
  obtain ⟨r1, r2⟩ := r
  have CC := Lib.hid c
  clear c h
  go_enter Try.func33, Try.ntmps33
  go_wp2_with fail
  refine CC.out.mono ?_
  rintro e w1 ⟨rfl, hb⟩
  have HB := Lib.hid hb
  clear hb
  go_wp2_with fail
  go_ret2
  exact ⟨rfl, HB.out⟩
set_option maxRecDepth 100000 in
theorem rBest_any (l : List (Int × Int)) (p : Option Addr) (cap : Nat) (pages align : Int) (w : World) (h : SpsAt w p l) :
    Calls Try.prog 35 #[.slice p l.length cap, .int .i64 pages, .int .i64 align] w (IntErr (bestR l pages align) w) := by
  have c := rfind_any true l p cap pages align w h
  unfold bestR
  unfold IntErr at c ⊢
  generalize (if placeE l pages align ≠ 0 then (0, placeE l pages align) else foundR align.toNat (foundX true pages.toNat align.toNat (down l))) = r at c ⊢
  obtain ⟨r1, r2⟩ := r
  have CC := Lib.hid c
  clear c h
  go_enter Try.func35, Try.ntmps35
  go_wp2_with fail
  refine CC.out.mono ?_
  rintro e w1 ⟨rfl, hb⟩
  have HB := Lib.hid hb
  clear hb
  go_wp2_with fail
  go_ret2
  exact ⟨rfl, HB.out⟩
end Go.Proofs.Ytnhbilcpdombfaa
