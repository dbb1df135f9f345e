/- The reference's texts of the first numbers of a list are the items of the list, in their order. The reference's texts at two numbers and more. -/
import Derived.Test.YtgldpdbdgjehkaaGreatDoorExprs
import Derived.Test.YtgldpdbdgjehkaaGreatDoorRTexts
import Derived.Test.YtgldpdbdgjehkaaGreatDoorLeast
import Derived.Deep.DeepCutAuto
import Derived.Deep.RegionHeld3
namespace Go.Proofs.YtgldpdbdgjehkaaGreatDoor
open Go

def upB (l : List Int) (k : Nat) : Bool := (List.range k).all fun j => at0 l j == at0 l 0 + j
def alB (l : List Int) (k : Nat) : Bool := (List.range k).all fun j => at0 l j == at0 l 0
theorem upB_succ (l : List Int) (k : Nat) : upB l (k + 1) = (upB l k && (at0 l k == at0 l 0 + k)) := by simp [upB, List.range_succ]
theorem alB_succ (l : List Int) (k : Nat) : alB l (k + 1) = (alB l k && (at0 l k == at0 l 0)) := by simp [alB, List.range_succ]
theorem upB_iff (l : List Int) (k : Nat) : upB l k = true ↔ ∀ j, j < k → at0 l j = at0 l 0 + j := by
  unfold upB; rw [List.all_eq_true]
  exact ⟨fun h j hj => by simpa using h j (List.mem_range.2 hj), fun h j hj => by simpa using h j (List.mem_range.1 hj)⟩
theorem alB_iff (l : List Int) (k : Nat) : alB l k = true ↔ ∀ j, j < k → at0 l j = at0 l 0 := by
  unfold alB; rw [List.all_eq_true]
  exact ⟨fun h j hj => by simpa using h j (List.mem_range.2 hj), fun h j hj => by simpa using h j (List.mem_range.1 hj)⟩
def textsR (l : List Int) : List (List UInt8) :=
  if l.length = 1 then [Lib.itoa (at0 l 0)] else if upB l l.length then [Lib.itoa (at0 l 0) ++ [45] ++ Lib.itoa (at0 l (l.length - 1))]
  else if alB l l.length then [Lib.itoa l.length ++ [120] ++ Lib.itoa (at0 l 0)] else []
theorem ups_get (l : List Int) : ∀ (f m i : Nat), 2 ≤ m → upB l (m - 1) = true → (upsL l f m)[i]? = if i < f ∧ m + i ≤ l.length ∧ upB l (m + i) = true then some ⟨Lib.itoa (at0 l 0) ++ [45] ++ Lib.itoa (at0 l (m + i - 1)), m + i⟩ else none
  | 0, m, i, _, _ => by simp [upsL]
  | f + 1, m, i, hm, hu => by
    have hs : upB l m = (at0 l (m - 1) == at0 l 0 + ((m - 1 : Nat) : Int)) := by
      obtain ⟨n, rfl⟩ : ∃ n, m = n + 1 := ⟨m - 1, by omega⟩
      rw [Nat.add_sub_cancel] at hu ⊢
      rw [upB_succ, hu, Bool.true_and]
    rw [upsL]
    by_cases hc : m ≤ l.length ∧ at0 l (m - 1) = at0 l 0 + m - 1
    · rw [if_pos hc]
      have hum : upB l m = true := by rw [hs, beq_iff_eq, hc.2]; omega
      cases i with
      | zero => rw [List.getElem?_cons_zero, if_pos ⟨by omega, hc.1, hum⟩]; rfl
      | succ i =>
        rw [List.getElem?_cons_succ, ups_get l f (m + 1) i (by omega) (by simpa using hum), show m + 1 + i = m + (i + 1) by omega]
        simp only [Nat.add_lt_add_iff_right]
    · rw [if_neg hc, if_neg]
      · rfl
      · rintro ⟨_, h2, h3⟩
        rw [upB_iff] at h3
        exact hc ⟨by omega, by have := h3 (m - 1) (by omega); omega⟩
theorem sames_get (l : List Int) : ∀ (f m i : Nat), 2 ≤ m → alB l (m - 1) = true → (samesL l f m)[i]? = if i < f ∧ m + i ≤ l.length ∧ alB l (m + i) = true then some ⟨Lib.itoa ((m + i : Nat) : Int) ++ [120] ++ Lib.itoa (at0 l 0), m + i⟩ else none
  | 0, m, i, _, _ => by simp [samesL]
  | f + 1, m, i, hm, hu => by
    have hs : alB l m = (at0 l (m - 1) == at0 l 0) := by
      obtain ⟨n, rfl⟩ : ∃ n, m = n + 1 := ⟨m - 1, by omega⟩
      rw [Nat.add_sub_cancel] at hu ⊢
      rw [alB_succ, hu, Bool.true_and]
    rw [samesL]
    by_cases hc : m ≤ l.length ∧ at0 l (m - 1) = at0 l 0
    · rw [if_pos hc]
      have hum : alB l m = true := by rw [hs, beq_iff_eq, hc.2]
      cases i with
      | zero => rw [List.getElem?_cons_zero, if_pos ⟨by omega, hc.1, hum⟩]; rfl
      | succ i =>
        rw [List.getElem?_cons_succ, sames_get l f (m + 1) i (by omega) (by simpa using hum), show m + 1 + i = m + (i + 1) by omega]
        simp only [Nat.add_lt_add_iff_right]
    · rw [if_neg hc, if_neg]
      · rfl
      · rintro ⟨_, h2, h3⟩
        rw [alB_iff] at h3
        exact hc ⟨by omega, h3 (m - 1) (by omega)⟩
theorem at0_take (l : List Int) (c j : Nat) (h : j < c) : at0 (l.take c) j = at0 l j := by unfold at0; rw [List.getElem?_take_of_lt h]
theorem upB_take (l : List Int) (c : Nat) (h : 0 < c) : upB (l.take c) c = upB l c := by
  apply Bool.eq_iff_iff.2
  rw [upB_iff, upB_iff]
  constructor
  · intro hh j hj; have := hh j hj; rwa [at0_take l c j hj, at0_take l c 0 h] at this
  · intro hh j hj; rw [at0_take l c j hj, at0_take l c 0 h]; exact hh j hj
theorem alB_take (l : List Int) (c : Nat) (h : 0 < c) : alB (l.take c) c = alB l c := by
  apply Bool.eq_iff_iff.2
  rw [alB_iff, alB_iff]
  constructor
  · intro hh j hj; have := hh j hj; rwa [at0_take l c j hj, at0_take l c 0 h] at this
  · intro hh j hj; rw [at0_take l c j hj, at0_take l c 0 h]; exact hh j hj
theorem up_one (l : List Int) : upB l (2 - 1) = true := by rw [upB_iff]; intro j hj; obtain rfl : j = 0 := (by omega); simp
theorem al_one (l : List Int) : alB l (2 - 1) = true := by rw [alB_iff]; intro j hj; obtain rfl : j = 0 := (by omega); rfl
theorem nil_of_get {α : Type} {l : List α} (h : l[0]? = none) : l = [] := by cases l with | nil => rfl | cons a r => simp at h
/-- The reference's texts of the first k + 1 numbers. -/
theorem texts_item (l : List Int) (k : Nat) (hk : k < l.length) : textsR (l.take (k + 1)) = (match (itemsL l)[k]? with
      | some it => [it.text]
      | none => []) ∧ ∀ it, (itemsL l)[k]? = some it → it.count = k + 1 := by
  have hlen : (l.take (k + 1)).length = k + 1 := by rw [List.length_take]; omega
  unfold textsR
  rw [hlen, upB_take l (k + 1) (by omega), alB_take l (k + 1) (by omega), at0_take l (k + 1) 0 (by omega)]
  cases k with
  | zero => exact ⟨rfl, fun it h => by simp [itemsL] at h; rw [← h]⟩
  | succ k =>
    have hi : (itemsL l)[k + 1]? = (upsL l l.length 2 ++ samesL l l.length 2)[k]? := rfl
    rw [if_neg (by omega), Nat.add_sub_cancel, at0_take l (k + 1 + 1) (k + 1) (by omega), hi]
    have hu := ups_get l l.length 2 k (by omega) (up_one l)
    have hs := sames_get l l.length 2 k (by omega) (al_one l)
    have hu0 := ups_get l l.length 2 0 (by omega) (up_one l)
    have hs0 := sames_get l l.length 2 0 (by omega) (al_one l)
    rw [show 2 + k = k + 1 + 1 by omega] at hu hs
    have u1 : upB l (2 + 0) = (at0 l 1 == at0 l 0 + 1) := by
      show upB l (1 + 1) = _
      rw [upB_succ, show upB l 1 = true from up_one l]; rfl
    have s1 : alB l (2 + 0) = (at0 l 1 == at0 l 0) := by
      show alB l (1 + 1) = _
      rw [alB_succ, show alB l 1 = true from al_one l]; rfl
    rw [u1] at hu0
    rw [s1] at hs0
    by_cases hup : upB l (k + 1 + 1) = true
    · have h1 := (upB_iff l _).1 hup 1 (by omega)
      have hsn : samesL l l.length 2 = [] := by
        apply nil_of_get
        rw [hs0, if_neg]
        rintro ⟨_, _, h⟩
        rw [beq_iff_eq] at h; omega
      rw [if_pos hup, hsn, List.append_nil, hu, if_pos ⟨by omega, by omega, hup⟩]
      exact ⟨rfl, fun it h => by rw [← Option.some.inj h]⟩
    · rw [if_neg hup]
      have hun : (upsL l l.length 2)[k]? = none := by rw [hu, if_neg (fun h => hup h.2.2)]
      by_cases hal : alB l (k + 1 + 1) = true
      · have h1 := (alB_iff l _).1 hal 1 (by omega)
        have hunil : upsL l l.length 2 = [] := by
          apply nil_of_get
          rw [hu0, if_neg]
          rintro ⟨_, _, h⟩
          rw [beq_iff_eq] at h; omega
        rw [if_pos hal, hunil, List.nil_append, hs, if_pos ⟨by omega, by omega, hal⟩]
        exact ⟨rfl, fun it h => by rw [← Option.some.inj h]⟩
      · rw [if_neg hal]
        have hsn : (samesL l l.length 2)[k]? = none := by rw [hs, if_neg (fun h => hal h.2.2)]
        have hboth : (upsL l l.length 2 ++ samesL l l.length 2)[k]? = none := by
          by_cases h1 : at0 l 1 = at0 l 0 + 1
          · have : samesL l l.length 2 = [] := by
              apply nil_of_get
              rw [hs0, if_neg]
              rintro ⟨_, _, h⟩
              rw [beq_iff_eq] at h; omega
            rw [this, List.append_nil]; exact hun
          · have : upsL l l.length 2 = [] := by
              apply nil_of_get
              rw [hu0, if_neg]
              rintro ⟨_, _, h⟩
              rw [beq_iff_eq] at h; omega
            rw [this, List.nil_append]; exact hsn
        rw [hboth]
        exact ⟨rfl, fun it h => by cases h⟩
theorem items_len (l : List Int) (h : l ≠ []) : (itemsL l).length ≤ l.length := by
  by_cases hc : (itemsL l).length ≤ l.length
  · exact hc
  · exfalso
    have h1 : l.length < (itemsL l).length := by omega
    obtain ⟨n, hn⟩ : ∃ n, l.length = n + 1 := ⟨l.length - 1, by have := List.length_pos_iff.2 h; omega⟩
    have hu := ups_get l l.length 2 n (by omega) (up_one l)
    have hs := sames_get l l.length 2 n (by omega) (al_one l)
    rw [if_neg (by omega)] at hu hs
    have hul := List.getElem?_eq_none_iff.1 hu
    have hsl := List.getElem?_eq_none_iff.1 hs
    have hu0 := ups_get l l.length 2 0 (by omega) (up_one l)
    have hs0 := sames_get l l.length 2 0 (by omega) (al_one l)
    have key : upsL l l.length 2 = [] ∨ samesL l l.length 2 = [] := by
      by_cases h2 : at0 l 1 = at0 l 0 + 1
      · right
        apply nil_of_get
        rw [hs0, if_neg]
        rintro ⟨_, _, hh⟩
        have := (alB_iff l _).1 hh 1 (by omega); omega
      · left
        apply nil_of_get
        rw [hu0, if_neg]
        rintro ⟨_, _, hh⟩
        have := (upB_iff l _).1 hh 1 (by omega); omega
    unfold itemsL at h1
    simp only [List.cons_append, List.length_cons, List.length_append] at h1
    rcases key with h | h
    · rw [h] at h1; simp at h1; omega
    · rw [h] at h1; simp at h1; omega
end Go.Proofs.YtgldpdbdgjehkaaGreatDoor
namespace Go.Proofs.YtgldpdbdgjehkaaGreatDoor
open Go.RowKit Go.Shelf

theorem wrapN (N p : Nat) (hN : N = p + 1) (h5 : p < 500) : IntKind.i64.wrap ((N : Int) - 1) = (p : Int) ∧ IntKind.i64.wrap (p : Int) = (p : Int) ∧ (N : Int) - 1 = (p : Int) := by
  have h : (N : Int) - 1 = (p : Int) := by omega
  exact ⟨by rw [h]; exact IntWalk.i64_in _ (by omega), IntWalk.i64_in _ (by omega), h⟩
theorem keep4 {W W' : World} {a b : Addr} {X Y : Value} (hb : Below W.heap.size W W') (hS : W.cell? a = some X ∧ W.cell? b = some Y) : W'.cell? a = some X ∧ W'.cell? b = some Y :=
  ⟨(hb.cell (World.block_lt_of_cell? W _ hS.1)).trans hS.1, (hb.cell (World.block_lt_of_cell? W _ hS.2)).trans hS.2⟩
def TwoPost (Y0 Y1 : Int) (w : World) (a b : Value) (wx : World) : Prop := a = .string ⟨(Lib.itoa Y0).toArray⟩ ∧ b = .string ⟨(Lib.itoa Y1).toArray⟩ ∧ Below w.heap.size w wx

theorem below_two {w w1 w2 : World} (h1 : Below w.drew.heap.size w.drew w1) (h2 : Below w1.heap.size w1 w2) : Below w.heap.size w w2 :=
  have h : Below w.heap.size w w1 := (Below.refl w.heap.size w).drew.trans h1
  h.trans (h2.mono h.size)
theorem drewN2 (b n : Nat) (W : World) : Below b W (W.drewN n) := ⟨rfl, rfl, rfl, Nat.le_refl _, fun _ _ => rfl⟩
theorem wrapS (x : Int) (k : Nat) (h0 : 0 ≤ x) (h1 : x ≤ 9999) (hk : k < 500) : IntKind.i64.wrap (x + (k : Int)) = x + (k : Int) ∧ IntKind.i64.wrap ((k : Int) + 1) = (k : Int) + 1 := ⟨IntWalk.i64_in _ (by omega), IntWalk.i64_in _ (by omega)⟩

set_option maxHeartbeats 1000000 in
set_option maxRecDepth 100000 in
theorem rtexts_many (g off cap p N : Nat) (l : List Int) (w : World) (hN : N = p + 1) (hn : l.length = N) (hp : 1 ≤ p) (h5 : p < 500) (hr : ∀ k, 0 ≤ at0 l k ∧ at0 l k ≤ 9999) (hg : g < w.heap.size)
    (hc : ∀ j, j < N → w.cell? ⟨g, off + j, none⟩ = some (.int .i64 (at0 l j))) :
    Calls Tryz.prog 55 #[.slice (some ⟨g, off, none⟩) N cap] w (TextsPost (textsR l) w) := by
  have c := fun (x : Int) (h0 : 0 ≤ x) (h1 : x ≤ 9999) W => rdigits_any x (by omega) (by omega) W
  unfold DigPost at c
  obtain ⟨hw1, hw2, hN1⟩ := wrapN N p hN h5
  have q0 := hc 0 (by omega)
  rw [Nat.add_zero] at q0
  have q1 := hc p (by omega)
  obtain ⟨r0, r0'⟩ := hr 0
  obtain ⟨r1, r1'⟩ := hr p
  have e0 : textsR l = if upB l N then [Lib.itoa (at0 l 0) ++ [45] ++ Lib.itoa (at0 l p)] else if alB l N then [Lib.itoa (N : Int) ++ [120] ++ Lib.itoa (at0 l 0)] else [] := by
    unfold textsR; rw [hn, if_neg (by omega), show N - 1 = p by omega]
  have HE0 := Lib.hid e0
  have hi0 : (0 : Int) ≤ p := by omega
  have hi1 : (p : Int) < N := by omega
  have hi2 : (0 : Int) < N := by omega
  have hj0 : 0 < N := by omega
  have hj1 : p < N := by omega
  have hj2 : (1 : Int) ≤ N := by omega
  have hj3 : 1 ≤ N := by omega
  have hN5 : N ≤ 500 := by omega
  have hne : ((N : Int) == 1) = false := beq_eq_false_iff_ne.2 (by omega)
  have hne1 : ¬ N = 1 := by omega
  have hne2 : (N == 1) = false := beq_eq_false_iff_ne.2 hne1
  have hne3 : ¬ (N : Int) = 1 := by omega
  have hn0 : (0 : Int) ≤ (N : Int) := by omega
  have hn9 : (N : Int) ≤ 9999 := by omega
  have C := Lib.hid c; have HC := Lib.hid hc; have HR := Lib.hid hr
  have s0 : w.drew.cell? ⟨g, off, none⟩ = some (.int .i64 (at0 l 0)) ∧ w.drew.cell? ⟨g, off + p, none⟩ = some (.int .i64 (at0 l p)) := ⟨q0, q1⟩
  have HN := Lib.hid hN; have HP := Lib.hid hp
  clear c hN hp h5 hc hr e0 hn
  go_enter Tryz.func55, Tryz.ntmps55
  go_upto_region 1 with fail
  go_cut [3, 4] (fun a b wx => TwoPost (at0 l 0) (at0 l p) w a b wx)
  case first =>
    go_region_held3 (fun W => W.cell? ⟨g, off, none⟩ = some (.int .i64 (at0 l 0)) ∧ W.cell? ⟨g, off + p, none⟩ = some (.int .i64 (at0 l p))) (first | exact s0 | exact keep4 (by assumption) (by assumption)) (first
      | (go_at_call 22; refine (C.out _ (by assumption) (by assumption) _).mono ?_; rintro e w1 ⟨rfl, hb1⟩))
    all_goals
      go_wp2_with fail
      go_meet
      exact ⟨rfl, rfl, below_two (by assumption) (by assumption)⟩
  case rest =>
    obtain ⟨rfl, rfl, hbc⟩ := hcut
    have HBC := Lib.hid hbc
    clear q0 q1 s0 hbc hw1 hw2 hN1 r1 r1'
    go_wp2_with fail
    go_loopg [5, 6, 7] p (fun n u a i wr => ∃ k : Nat, k + n = N ∧ 1 ≤ k ∧ i = .int .i64 k ∧ u = .bool (upB l k) ∧ a = .bool (alB l k) ∧ Below w.heap.size w wr)
    case atStart => exact ⟨1, by have := HN.out; omega, Nat.le_refl _, by go_num, by rw [show upB l 1 = true from up_one l], by rw [show alB l 1 = true from al_one l], HBC.out⟩
    case round =>
      obtain ⟨k, hkn, hk1, rfl, rfl, rfl, hbr⟩ := hrel
      have HB := Lib.hid hbr; clear HBC hbr
      by_cases hlt : k < N
      · obtain ⟨n', rfl⟩ : ∃ n', gk = n' + 1 := ⟨gk - 1, by omega⟩
        have c0 := (HB.out.cell (p := ⟨g, off + 0, none⟩) hg).trans (HC.out 0 hj0)
        rw [Nat.add_zero] at c0
        have ck := (HB.out.cell (p := ⟨g, off + k, none⟩) hg).trans (HC.out k hlt)
        have ik : (k : Int) < N := by omega
        have hU := upB_succ l k
        have hA := alB_succ l k
        obtain ⟨w1, w2⟩ := wrapS (at0 l 0) k r0 r0' (by omega)
        have HU := Lib.hid hU; have HA := Lib.hid hA; clear hU hA
        go_upto_region 8 with fail
        cases hub : upB l k
        all_goals
          go_quiet (fail)
          go_upto_region 9 with fail
          cases hab : alB l k
          all_goals
            go_quiet (fail)
            go_wp2_with fail
            go_roundg n'
            case measure => omega
            case rel => exact ⟨k + 1, by omega, by omega, by go_num, by rw [HU.out, hub]; first | rfl | simp, by rw [HA.out, hab]; first | rfl | simp, HB.out.trans (drewN2 _ _ _)⟩
      · obtain rfl : k = N := by omega
        have he := HE0.out
        clear HE0 HC hkn hk1
        cases hub : upB l k
        · rw [hub] at he
          cases hab : alB l k
          · rw [hab] at he
            have HX := Lib.hid he; clear he
            go_wp2_with fail
            go_ret
            rw [HX.out]
            exact ⟨_, rfl, World.ownsRow_nil _ _ _ _, HB.out⟩
          · rw [hab] at he
            have t0 := itoa_four (HR.out 0).1 (HR.out 0).2
            have t1 := itoa_four hn0 hn9
            have cN := fun W => C.out _ hn0 hn9 W
            clear C
            generalize Lib.itoa (at0 l 0) = T0 at he t0 ⊢
            generalize Lib.itoa (k : Int) = T1 at he t1 cN
            have HX := Lib.hid he; have CN := Lib.hid cN; clear he cN
            go_wp2_with (go_at_call 22; refine (CN.out _).mono ?_; rintro e w1 ⟨rfl, hb1⟩; have HB1 := Lib.hid (HB.out.trans (hb1.mono HB.out.size)); clear hb1)
            go_ret
            rw [HX.out]
            exact one_owned _ _ HB1.out _ _ (ba_eq (by simp))
        · rw [hub] at he
          have t0 := itoa_four (HR.out 0).1 (HR.out 0).2
          have t1 := itoa_four (HR.out p).1 (HR.out p).2
          generalize Lib.itoa (at0 l 0) = T0 at he t0 ⊢
          generalize Lib.itoa (at0 l p) = T1 at he t1 ⊢
          have HX := Lib.hid he; clear he
          go_wp2_with fail
          go_ret
          rw [HX.out]
          exact one_owned _ _ HB.out _ _ (ba_eq (by simp))
end Go.Proofs.YtgldpdbdgjehkaaGreatDoor
