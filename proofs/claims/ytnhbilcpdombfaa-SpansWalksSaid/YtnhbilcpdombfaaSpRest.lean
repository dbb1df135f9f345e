/- spans: rest. -/
import Derived.Test.YtnhbilcpdombfaaSpRestMath
namespace Go.Proofs.Ytnhbilcpdombfaa
open Go.RowKit

theorem restSt_take (s : List (Nat × Nat)) (k : Nat) (h : k < s.length) : restSt (s.take (k + 1)) = restStep (restSt (s.take k)) (s[k]'h) := by
  rw [List.take_add_one, List.getElem?_eq_getElem h]; exact restSt_snoc _ _
theorem IsSet.take {N : Nat} {s : List (Nat × Nat)} (h : IsSet N s) (k : Nat) : IsSet N (s.take k) := ⟨fun x hx => h.run x (List.mem_of_mem_take hx), h.gap.sublist (List.take_sublist k s)⟩
theorem grown_box {W w4 : World} {o o' : Obj} {v : Value} {lo : Nat} (hlt : ∀ k, v.ownBlock = some k → lo ≤ k ∧ k < W.heap.size) (hg : ((W.alloc o).alloc o').grownBy w4 v.ownBlock) : w4.heap[W.heap.size]? = some o := by
  refine (hg.block W.heap.size (by simp; omega) (fun e => by have := (hlt _ e.symm).2; omega)).trans ?_
  rw [Below.heap_alloc _ _ _ (by simp)]
  exact heap_alloc_new W o
theorem grown_below {w W w4 : World} {o o' : Obj} {v : Value} (hw : Below w.heap.size w W) (hlt : ∀ k, v.ownBlock = some k → w.heap.size ≤ k ∧ k < W.heap.size) (hg : ((W.alloc o).alloc o').grownBy w4 v.ownBlock) : Below w.heap.size w w4 :=
  hw.trans ((((Below.refl _ _).alloc hw.size _).alloc (by have := hw.size; simp; omega) _).grown hg (by have := hw.size; simp; omega) (fun k e => (hlt k e).1))
theorem owns_below {w W : World} {base : Nat} {e : TypeId} {size : Nat} {v : Value} {n : Nat} {xs : List Value} (h : w.ownsRow base e size v n xs) (hb : Below w.heap.size w W) : W.ownsRow base e size v n xs := by
  obtain ⟨h1, h2⟩ := h
  refine ⟨h1, ?_⟩
  rcases h2 with h2 | ⟨g, cap, cur, hv, hg, hh, r⟩
  · exact .inl h2
  · exact .inr ⟨g, cap, cur, hv, hg, (hb.block g (Array.getElem?_eq_some_iff.1 hh).1).trans hh, r⟩
set_option maxHeartbeats 4000000 in
set_option maxRecDepth 100000 in
theorem rest_any (s : List (Nat × Nat)) (p : Option Addr) (cap : Nat) (w : World) (h : SpsAt w p (up s)) (hs : IsSet 1024 s) (hl : s.length ≤ 1000) :
    Calls Try.prog 55 #[.slice p s.length cap] w (SpsPost (restR s) w) := by
  have HW := Lib.hid h; have HS := Lib.hid hs
  have l4 : (s.length : Int) ≤ 1000 := by omega
  have e : restR s = (restSt s).1 ++ (if (restSt s).2 < 1024 then [((restSt s).2, 1024 - (restSt s).2)] else []) := rfl
  generalize restR s = r at e
  have E := Lib.hid e
  obtain ⟨i0, hi, hz0, hz1, hz2⟩ := info_parts info_span
  have HIN := Lib.hid hi; have HZ0 := Lib.hid hz0; have HZ1 := Lib.hid hz1; have HZ2 := Lib.hid hz2
  clear h hs e hi hz0 hz1 hz2
  go_enter Try.func55, Try.ntmps55
  go_wp2_with fail
  go_loopg [3, 4, 9] s.length (fun n1 v fr i W => ∃ k : Nat, k + n1 = s.length ∧ i = .int .i64 k ∧ fr = .int .i64 ((restSt (s.take k)).2 : Int) ∧ Below w.heap.size w W ∧ W.ownsRow w.heap.size 31 2 v (restSt (s.take k)).1.length (SpC (restSt (s.take k)).1))
  case atStart => exact ⟨0, by omega, by go_num, by go_num, Below.refl _ _, World.ownsRow_nil _ _ _ _⟩
  case round =>
    obtain ⟨k, hkn, rfl, rfl, hbw, hrow⟩ := hrel
    have k0 : (0 : Int) ≤ k := by omega
    have hok := rest_ok _ (HS.out.take k)
    have hsz := hbw.size
    by_cases hlt : k < s.length
    · obtain ⟨n', rfl⟩ : ∃ n', gk = n' + 1 := ⟨gk - 1, by omega⟩
      obtain ⟨g, off, rfl, hg, hc⟩ := (HW.out.below hbw).at_ (by rw [up_len]; omega)
      obtain ⟨d0, d1⟩ := hc k (by rw [up_len]; exact hlt)
      rw [up_get] at d0 d1
      obtain ⟨v1, v2⟩ := HS.out.run _ (List.getElem_mem hlt)
      have htk := restSt_take s k hlt
      have hle := hok.le
      have hlen : (restSt (s.take k)).1.length ≤ 1000 := by have := hok.len; rw [List.length_take] at this; omega
      generalize restSt (s.take k) = st at htk hle hlen hrow ⊢
      generalize s[k]'hlt = x at d0 d1 v1 v2 htk
      obtain ⟨G, f⟩ := st
      obtain ⟨a, b⟩ := x
      simp only at d0 d1 v1 v2 hle hlen hrow ⊢
      obtain ⟨e, he⟩ : ∃ e, e = a + b := ⟨_, rfl⟩
      have CE := Lib.hid (fun W => end_nat a b e he (by omega) W)
      have hst : restSt (s.take (k + 1)) = (if f < a then G ++ [(f, a - f)] else G, e) := by rw [htk, he]; rfl
      have hltb := fun kk hk => hrow.lt kk hk
      have HRW := Lib.hid hrow; have HB := Lib.hid hbw; have HLT := Lib.hid hltb
      have i1 : (k : Int) < s.length := by omega
      have a0 : (0 : Int) ≤ a := by omega
      have a4 : (a : Int) ≤ 1024 := by omega
      have f0 : (0 : Int) ≤ f := by omega
      have f4 : (f : Int) ≤ 1024 := by omega
      clear hc htk hok hrow hbw hltb he
      by_cases hfa : f < a
      · rw [if_pos hfa] at hst
        have HST := Lib.hid hst
        clear hst
        have i2 : (f : Int) < a := by omega
        have hb1 : G.length + 1 ≤ maxLen := by unfold maxLen; omega
        have hb2 : (G.length + 1) * 16 ≤ 140737488355328 := by omega
        have hcast : ((a - f : Nat) : Int) = (a : Int) - (f : Int) := by omega
        have HC := Lib.hid hcast
        have H1C := Lib.hid (two_onecell (f : Int) ((a : Int) - (f : Int))); have HX1 := Lib.hid hb1; have HX2 := Lib.hid hb2
        have w2 : IntKind.i64.wrap ((a : Int) - (f : Int)) = (a : Int) - (f : Int) := IntWalk.i64_in _ (by omega)
        clear hb1 hb2 hcast
        go_wp2_with (first
          | (at_builtin; refine wpList_append_own _ rfl _ _ 22 rfl w.heap.size 31 i0 (.agg #[.int .i64 0, .int .i64 0]) 2 16 Try.underlying22 HIN.out HZ0.out HZ1.out HZ2.out rfl (by decide) _ _ _ rfl ((HRW.out.alloc _).alloc _) ⟨wr.heap.size + 1, 0, none⟩ 1 1 [.int .i64 (f : Int), .int .i64 ((a : Int) - (f : Int))] rfl rfl (cellB_two _ _ _ _ _ (by simp)) H1C.out HX1.out HX2.out (by simp; omega) ?_; intro v4 w4 hown4 hgrow4 hnil4; have hbx := grown_box HLT.out hgrow4; have q0 := row_cell (i := 0) (v := .int .i64 (a : Int)) hbx rfl; have q1 := row_cell (i := 1) (v := .int .i64 (b : Int)) hbx rfl; have HB4 := Lib.hid (grown_below HB.out HLT.out hgrow4); have HO4 := Lib.hid hown4; clear hbx hown4 hgrow4 hnil4)
          | (go_at_call 52; refine (CE.out _).mono ?_; rintro r w5 ⟨rfl, hb5⟩))
        go_roundg n'
        case measure => omega
        case rel => exact ⟨k + 1, by omega, by go_num, by rw [HST.out], HB4.out.trans (hb5.mono HB4.out.size), by
          rw [HST.out]
          show w5.ownsRow _ _ _ _ (G ++ [(f, a - f)]).length (SpC (G ++ [(f, a - f)]))
          rw [List.length_append, SpC_snoc, HC.out]; exact owns_below HO4.out hb5⟩
      · rw [if_neg hfa] at hst
        have HST := Lib.hid hst
        clear hst
        have i2 : ¬ (f : Int) < a := by omega
        go_wp2_with (go_at_call 52; refine (CE.out _).mono ?_; rintro r w5 ⟨rfl, hb5⟩; have HB5 := Lib.hid (HB.out.trans ((boxB hb5).mono HB.out.size)); have HO5 := Lib.hid (owns_below HRW.out (boxB hb5)); clear hb5)
        go_roundg n'
        case measure => omega
        case rel => exact ⟨k + 1, by omega, by go_num, by rw [HST.out], HB5.out, by rw [HST.out]; exact HO5.out⟩
    · obtain rfl : k = s.length := by omega
      rw [List.take_length] at hrow hok ⊢
      have hle := hok.le
      have hlen := hok.len
      have i1 : ¬ ((s.length : Nat) : Int) < s.length := by omega
      have HE := E.out
      clear E hok
      generalize restSt s = st at hrow hle hlen HE ⊢
      obtain ⟨G, f⟩ := st
      simp only at hrow hle hlen HE ⊢
      have HRW := Lib.hid hrow; have HB := Lib.hid hbw
      have f0 : (0 : Int) ≤ f := by omega
      have f4 : (f : Int) ≤ 1024 := by omega
      clear hrow hbw
      by_cases hf : f < 1024
      · rw [if_pos hf] at HE
        have E := Lib.hid HE
        have i2 : (f : Int) < 1024 := by omega
        have hb1 : G.length + 1 ≤ maxLen := by unfold maxLen; omega
        have hb2 : (G.length + 1) * 16 ≤ 140737488355328 := by omega
        have hcast : ((1024 - f : Nat) : Int) = (1024 : Int) - (f : Int) := by omega
        have HC := Lib.hid hcast
        have H1C := Lib.hid (two_onecell (f : Int) ((1024 : Int) - (f : Int))); have HX1 := Lib.hid hb1; have HX2 := Lib.hid hb2
        have w2 : IntKind.i64.wrap ((1024 : Int) - (f : Int)) = (1024 : Int) - (f : Int) := IntWalk.i64_in _ (by omega)
        clear hb1 hb2 hcast HE
        go_wp2_with (at_builtin; refine wpList_append_own _ rfl _ _ 22 rfl w.heap.size 31 i0 (.agg #[.int .i64 0, .int .i64 0]) 2 16 Try.underlying22 HIN.out HZ0.out HZ1.out HZ2.out rfl (by decide) _ _ _ rfl (HRW.out.alloc _) ⟨wr.heap.size, 0, none⟩ 1 1 [.int .i64 (f : Int), .int .i64 ((1024 : Int) - (f : Int))] rfl rfl (cellB_two _ _ _ _ _ rfl) H1C.out HX1.out HX2.out (by simp; omega) ?_; intro v4 w4 hown4 hgrow4 hnil4)
        have hbb : Below w.heap.size wr w4 := ((Below.refl _ _).alloc HB.out.size _).grown hgrow4 (by have := HB.out.size; simp; omega) (ownB_block HRW.out)
        go_ret
        exact ⟨_, rfl, HB.out.trans hbb, by rw [E.out, List.length_append, SpC_snoc, HC.out]; exact hown4⟩
      · rw [if_neg hf, List.append_nil] at HE
        have E := Lib.hid HE
        have i2 : ¬ (f : Int) < 1024 := by omega
        clear HE
        go_wp2_with fail
        go_ret
        exact ⟨_, rfl, HB.out, by rw [E.out]; exact HRW.out⟩
end Go.Proofs.Ytnhbilcpdombfaa
