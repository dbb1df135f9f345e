/- List: the canonical text of a list, and what it says where there is none. -/
import Derived.Test.YtgldpdbdgjehkaaGreatDoorCanon
namespace Go.Proofs.YtgldpdbdgjehkaaGreatDoor
open Go.RowKit Go.Shelf

def listBad (n : Int) : Bool := decide (n < 0) || decide (9999 < n)
def listR (l : List Int) : List UInt8 × Int := if 500 < l.length then ([], 3) else if l.any listBad then ([], 7) else (canonL l, 0)
def ListPost (l : List Int) (w : World) (e : Ending) (w' : World) : Prop :=
  e = .returned (.tuple #[.string ⟨(listR l).1.toArray⟩, .int .i64 (listR l).2]) ∧ Below w.heap.size w w'
theorem listPost_mk {l : List Int} {w w' : World} {t : List UInt8} {er : Int} (h : listR l = (t, er)) (hb : Below w.heap.size w w') :
    ListPost l w (.returned (.tuple #[.string ⟨t.toArray⟩, .int .i64 er])) w' := ⟨by rw [h], hb⟩
theorem at0_get (l : List Int) (k : Nat) (h : k < l.length) : at0 l k = l[k] := by simp [at0, h]

set_option maxHeartbeats 1000000 in
set_option maxRecDepth 100000 in
theorem list_some (g off cap : Nat) (l : List Int) (w : World) (he : Env w) (hl0 : 0 < l.length) (hlm : l.length ≤ maxLen) (hcap : l.length ≤ cap) (hg : g < w.heap.size)
    (hn : ∀ j, j < l.length → w.cell? ⟨g, off + j, none⟩ = some (.int .i64 (at0 l j))) :
    Calls Tryz.prog 23 #[.slice (some ⟨g, off, none⟩) l.length cap] w (ListPost l w) := by
  have HE := Lib.hid he; have HN := Lib.hid hn; clear he hn
  unfold maxLen at hlm
  by_cases h5 : 500 < l.length
  · have h5' : (500 : Int) < l.length := by omega
    go_enter Tryz.func23, Tryz.ntmps23
    go_wp2_with fail
    go_ret2
    exact listPost_mk (by rw [listR, if_pos h5]) (Below.refl _ _)
  · have h5' : ¬ (500 : Int) < l.length := by omega
    have hR : listR l = if l.any listBad then ([], 7) else (canonL l, 0) := by rw [listR, if_neg h5]
    have HR := Lib.hid hR; clear hR
    go_enter Tryz.func23, Tryz.ntmps23
    go_wp2_with fail
    go_loop [5, 11] (fun _ i => ∃ k : Nat, k ≤ l.length ∧ i = .int .i64 k ∧ ∀ n ∈ l.take k, 0 ≤ n ∧ n ≤ 9999) (fun _ i => l.length - (intOf i).toNat)
    case atStart => exact ⟨0, Nat.zero_le _, rfl, by simp⟩
    case round =>
      obtain ⟨k, hk, rfl, hall⟩ := hrel
      have HA := Lib.hid hall; clear hall
      by_cases hlt : k < l.length
      · have c0 := HN.out k hlt
        have hx := at0_get l k hlt
        generalize at0 l k = x at c0 hx
        have HX := Lib.hid hx; clear hx
        by_cases h0 : x < 0
        · go_wp2_with fail
          go_ret2
          exact listPost_mk (by rw [HR.out, if_pos]; rw [List.any_eq_true]; exact ⟨l[k], List.getElem_mem hlt, by rw [← HX.out]; simp [listBad, h0]⟩) (Below.refl _ _)
        · by_cases h9 : 9999 < x
          · go_wp2_with fail
            go_ret2
            exact listPost_mk (by rw [HR.out, if_pos]; rw [List.any_eq_true]; exact ⟨l[k], List.getElem_mem hlt, by rw [← HX.out]; simp [listBad, h9]⟩) (Below.refl _ _)
          · go_wp2_with fail
            go_round
            case rel =>
              refine ⟨k + 1, by omega, by go_num, ?_⟩
              intro n hn
              rw [take_snoc' l k hlt] at hn
              rcases List.mem_append.1 hn with h | h
              · exact HA.out n h
              · simp only [List.mem_singleton] at h; subst h; rw [← HX.out]; omega
            case measure => simp [intOf]; omega
      · obtain rfl : k = l.length := by omega
        have hrg : ∀ n ∈ l, 0 ≤ n ∧ n ≤ 9999 := by have := HA.out; rwa [List.take_length] at this
        have hany : l.any listBad = false := by
          rw [List.any_eq_false]; intro n hn; have := hrg n hn; simp [listBad]; omega
        have hc := callsIn_wide.1 (canonical_in 3 g off cap (Nat.le_refl _) l w HE.out hl0 (by omega) hcap hrg hg HN.out)
        have hR : listR l = (canonL l, 0) := by rw [HR.out, hany]; rfl
        have HC := Lib.hid hc; have HR2 := Lib.hid hR; clear hc hR hany hrg HA HR
        go_wp2_with (go_at_call 54; refine (HC.out).mono ?_; rintro e w' ⟨rfl, hb⟩)
        go_ret2
        exact listPost_mk HR2.out hb
end Go.Proofs.YtgldpdbdgjehkaaGreatDoor
