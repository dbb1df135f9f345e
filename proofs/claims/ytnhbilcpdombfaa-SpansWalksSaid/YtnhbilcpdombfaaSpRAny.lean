/- The reference's Pages and Pieces at whatever list and size. -/
import Derived.Test.YtnhbilcpdombfaaSpRPieces
namespace Go.Proofs.Ytnhbilcpdombfaa
open Go.RowKit

set_option maxHeartbeats 2000000 in
set_option maxRecDepth 100000 in
theorem rpages_any (l : List (Int × Int)) (p : Option Addr) (cap : Nat) (w : World) (h : SpsAt w p l) : Calls Try.prog 41 #[.slice p l.length cap] w (PgPost (pgsR l) w) := by
  have ck := rcheck_any l p cap w h
  unfold ErrPost at ck
  by_cases hc : checkR l = 0
  · have e : pgsR l = pagesL (down l) := by unfold pgsR; rw [if_pos hc]
    rw [e]
    rw [hc] at ck
    obtain ⟨hv, hset, hl⟩ := check_set hc
    have hul := up_down hv
    generalize down l = s at hset hul ⊢
    subst hul
    rw [up_len] at hl ck ⊢
    exact rpages_good s p cap w h hset hl ck
  · have e : pgsR l = [] := by unfold pgsR; rw [if_neg hc]
    rw [e]
    obtain ⟨t1, t2⟩ := neq0 hc
    generalize checkR l = c at ck t1 t2
    have CK := Lib.hid ck
    clear ck h e hc
    go_enter Try.func41, Try.ntmps41
    go_wp2_with fail
    refine CK.out.mono ?_
    rintro e w1 ⟨rfl, hb⟩
    have HB := Lib.hid hb
    clear hb
    go_wp2_with fail
    go_ret
    exact ⟨_, rfl, HB.out, World.ownsRow_nil _ _ _ _⟩
set_option maxHeartbeats 2000000 in
set_option maxRecDepth 100000 in
theorem rpieces_any (l : List (Int × Int)) (p : Option Addr) (cap : Nat) (size : Int) (w : World) (h : SpsAt w p l) : Calls Try.prog 42 #[.slice p l.length cap, .int .i64 size] w (SpsPost (pcR l size) w) := by
  have ck := rcheck_any l p cap w h
  unfold ErrPost at ck
  by_cases hg : checkR l = 0 ∧ 1 ≤ size ∧ size ≤ 1024
  · have e : pcR l size = piecesL size.toNat (down l) := by unfold pcR; rw [if_pos hg]
    rw [e]
    obtain ⟨hc, h1, h2⟩ := hg
    obtain ⟨m, rfl⟩ : ∃ m : Nat, size = (m : Int) := ⟨size.toNat, by omega⟩
    have pg := fun W (hW : Below w.heap.size w W) => rpages_any l p cap W (h.below hW)
    have ep : pgsR l = pagesL (down l) := by unfold pgsR; rw [if_pos hc]
    rw [ep] at pg
    rw [hc] at ck
    obtain ⟨hv, hset, hl⟩ := check_set hc
    have hul := up_down hv
    rw [Int.toNat_natCast]
    generalize down l = s at hset hul pg ⊢
    subst hul
    rw [up_len] at hl ck pg ⊢
    exact rpieces_good s p cap m w hset (by omega) (by omega) ck pg
  · have e : pcR l size = [] := by unfold pcR; rw [if_neg hg]
    rw [e]
    by_cases hc : checkR l = 0
    · rw [hc] at ck
      have CK := Lib.hid ck
      by_cases h1 : size < 1
      · clear ck h e hc hg
        go_enter Try.func42, Try.ntmps42
        go_wp2_with fail
        refine CK.out.mono ?_
        rintro e w1 ⟨rfl, hb⟩
        have HB := Lib.hid hb
        clear hb
        go_wp2_with fail
        go_ret
        exact ⟨_, rfl, HB.out, World.ownsRow_nil _ _ _ _⟩
      · have h2 : 1024 < size := by omega
        clear ck h e hc hg
        go_enter Try.func42, Try.ntmps42
        go_wp2_with fail
        refine CK.out.mono ?_
        rintro e w1 ⟨rfl, hb⟩
        have HB := Lib.hid hb
        clear hb
        go_wp2_with fail
        go_ret
        exact ⟨_, rfl, HB.out, World.ownsRow_nil _ _ _ _⟩
    · obtain ⟨t1, t2⟩ := neq0 hc
      generalize checkR l = c at ck t1 t2 hg hc
      have CK := Lib.hid ck
      clear ck h e hc hg
      go_enter Try.func42, Try.ntmps42
      go_wp2_with fail
      refine CK.out.mono ?_
      rintro e w1 ⟨rfl, hb⟩
      have HB := Lib.hid hb
      clear hb
      go_wp2_with fail
      go_ret
      exact ⟨_, rfl, HB.out, World.ownsRow_nil _ _ _ _⟩
theorem pcR_okay (l : List (Int × Int)) (size : Int) : Okay (pcR l size) ∧ (pcR l size).length ≤ 1024 := by
  unfold pcR
  by_cases h : checkR l = 0 ∧ 1 ≤ size ∧ size ≤ 1024
  · rw [if_pos h]
    obtain ⟨hv, hset, hl⟩ := check_set h.1
    have hf := pieces_facts (size := size.toNat) (by omega) hset
    exact ⟨fun x hx => ⟨(hf.1 x hx).1, (hf.1 x hx).2.1⟩, by have := hf.2.2.1 0 (fun x _ => Nat.zero_le _); omega⟩
  · rw [if_neg h]; exact ⟨fun x hx => by simp at hx, by simp⟩
theorem pgsR_le (l : List (Int × Int)) : (pgsR l).length ≤ 1024 := by
  unfold pgsR
  by_cases h : checkR l = 0
  · rw [if_pos h]
    obtain ⟨hv, hset, hl⟩ := check_set h
    exact pagesL_le hset
  · rw [if_neg h]; simp
end Go.Proofs.Ytnhbilcpdombfaa
