/- The reference's texts: the items that are just these numbers. -/
import Derived.Test.YtgldpdbdgjehkaaGreatDoorListNil
import Derived.Test.YtgldpdbdgjehkaaGreatDoorRDigits
import Derived.Deep.RegionWith
import Derived.Deep.QuietTactic
import Derived.BigQuiet
namespace Go.Proofs.YtgldpdbdgjehkaaGreatDoor
open Go.RowKit Go.Shelf

def strCells (l : List (List UInt8)) : List Value := l.map fun s => .string ⟨s.toArray⟩
def TextsPost (r : List (List UInt8)) (w : World) (e : Ending) (w' : World) : Prop :=
  ∃ v, e = .returned v ∧ w'.ownsRow w.heap.size 9 1 v r.length (strCells r) ∧ Below w.heap.size w w'
theorem one_owned (w W : World) (hb : Below w.heap.size w W) (s : List UInt8) (b : ByteArray) (h : (⟨s.toArray⟩ : ByteArray) = b) :
    TextsPost [s] w (.returned (.slice (some ⟨W.heap.size, 0, none⟩) 1 1)) (W.alloc (.cells #[.string b] 9)) := by
  subst h
  exact ⟨_, rfl, ⟨rfl, .inr ⟨_, 1, _, rfl, hb.size, heap_alloc_new _ _, Nat.le_refl _, by unfold maxLen; omega, rfl, rfl⟩⟩, hb.alloc hb.size _⟩

set_option maxHeartbeats 2000000 in
theorem rtexts_one (g off cap : Nat) (x : Int) (w : World) (hg : g < w.heap.size) (h0 : -9223372036854775808 ≤ x) (h1 : x ≤ 9223372036854775807) (hc : w.cell? ⟨g, off, none⟩ = some (.int .i64 x)) :
    Calls Tryz.prog 55 #[.slice (some ⟨g, off, none⟩) 1 cap] w (TextsPost [Lib.itoa x] w) := by
  have c := fun W => rdigits_any x h0 h1 W
  unfold DigPost at c
  have hcb : ∀ W, Below w.heap.size w W → W.cell? ⟨g, off, none⟩ = some (.int .i64 x) := fun W hb => (hb.cell (p := ⟨g, off, none⟩) hg).trans hc
  generalize Lib.itoa x = q at c ⊢
  have C := Lib.hid c; have HC := Lib.hid hcb
  clear c hcb h0 h1
  have HB := Lib.hid (Below.refl w.heap.size w)
  go_enter Tryz.func55, Tryz.ntmps55
  go_wp2_with fail
  go_region_with (go_at_call 22; refine (C.out _).mono ?_; rintro e w1 ⟨rfl, hb1⟩; have HB : Hid (Below w.heap.size w w1) := (by first | exact Lib.hid (HB.out.drew.trans (hb1.mono HB.out.size)) | exact Lib.hid (HB.out.trans (hb1.mono HB.out.size))); have d := HC.out _ HB.out; clear hb1)
  all_goals
    go_wp2_with fail
    go_ret
    exact one_owned _ _ HB.out q _ rfl
end Go.Proofs.YtgldpdbdgjehkaaGreatDoor
