/- parseItem: what it returns. -/
import Derived.Test.YtgldpdbdgjehkaaGreatDoorSplit
import Derived.Deep.RegionWith
namespace Go.Proofs.YtgldpdbdgjehkaaGreatDoor
open Go.RowKit

/-- An item's run: from first to last, each of them so many times. -/
structure Run where
  first : Int
  last : Int
  times : Int
def runV (r : Run) : Value := .agg #[.int .i64 r.first, .int .i64 r.last, .int .i64 r.times]
def itemR (l : List UInt8) : Run × Bool :=
  if (Lib.cut l [45]).2.2 then (⟨cap1 (Lib.cut l [45]).1, cap1 (Lib.cut l [45]).2.1, 1⟩, natB (Lib.cut l [45]).1 && natB (Lib.cut l [45]).2.1 && beforeB (Lib.cut l [45]).1 (Lib.cut l [45]).2.1)
  else if (Lib.cut l [120]).2.2 then (⟨cap1 (Lib.cut l [120]).2.1, cap1 (Lib.cut l [120]).2.1, cap1 (Lib.cut l [120]).1⟩, natB (Lib.cut l [120]).1 && natB (Lib.cut l [120]).2.1 && beforeB [49] (Lib.cut l [120]).1)
  else (⟨cap1 l, cap1 l, 1⟩, natB l)

/-- The state of a call whose result lies in a block of three cells of its own, the first that it laid. -/
structure St3 (w W : World) (x y z : Value) : Prop where
  env : Env W
  below : Below w.heap.size w W
  lt : w.heap.size < W.heap.size
  c0 : W.cell? ⟨w.heap.size, 0, none⟩ = some x
  c1 : W.cell? ⟨w.heap.size, 1, none⟩ = some y
  c2 : W.cell? ⟨w.heap.size, 2, none⟩ = some z
  q0 : W.frozen? ⟨w.heap.size, 0, none⟩ = false
  q1 : W.frozen? ⟨w.heap.size, 1, none⟩ = false
  q2 : W.frozen? ⟨w.heap.size, 2, none⟩ = false
theorem St3.new {w : World} (he : Env w) (x y z : Value) (t : TypeId) : St3 w (w.alloc (.cells #[x, y, z] t)) x y z := by
  refine ⟨he.alloc _, (Below.refl _ _).alloc (Nat.le_refl _) _, by simp, ?_, ?_, ?_, ?_, ?_, ?_⟩
  all_goals first | (unfold World.cell?; simp only [heap_alloc_new]; rfl) | (unfold World.frozen?; simp only [heap_alloc_new]; rfl)
theorem St3.later {w W W' : World} {x y z : Value} (h : St3 w W x y z) (hb : Below W.heap.size W W') : St3 w W' x y z :=
  ⟨h.env.below hb, h.below.trans (hb.mono h.below.size), Nat.lt_of_lt_of_le h.lt hb.size,
   (hb.cell (p := ⟨w.heap.size, 0, none⟩) h.lt).trans h.c0, (hb.cell (p := ⟨w.heap.size, 1, none⟩) h.lt).trans h.c1, (hb.cell (p := ⟨w.heap.size, 2, none⟩) h.lt).trans h.c2,
   (hb.frozen (p := ⟨w.heap.size, 0, none⟩) h.lt).trans h.q0, (hb.frozen (p := ⟨w.heap.size, 1, none⟩) h.lt).trans h.q1, (hb.frozen (p := ⟨w.heap.size, 2, none⟩) h.lt).trans h.q2⟩
theorem St3.stored {w W : World} {x y z : Value} (h : St3 w W x y z) (a b c : Value) : Below w.heap.size w (((W.setCell ⟨w.heap.size, 0, none⟩ a).setCell ⟨w.heap.size, 1, none⟩ b).setCell ⟨w.heap.size, 2, none⟩ c) :=
  ((h.below.setCell (Nat.le_refl _) _).setCell (Nat.le_refl _) _).setCell (Nat.le_refl _) _
theorem cut_any (s : ByteArray) (c : UInt8) (W : World) (he : Env W) (hs : s.size < 4294967281) : Calls Tryz.prog 81 #[.string s, .string ⟨#[c]⟩] W fun e w' => e = .returned (.tuple #[.string ⟨(Lib.cut s.data.toList [c]).1.toArray⟩, .string ⟨(Lib.cut s.data.toList [c]).2.1.toArray⟩, .bool (Lib.cut s.data.toList [c]).2.2]) ∧ Below W.heap.size W w' := by
  obtain ⟨m, hm⟩ := he.maxlen
  refine (Tryz.strings_Cut s ⟨#[c]⟩ m W hs hm).mono fun e w' ⟨h, n, hw⟩ => ⟨h, ?_⟩
  subst hw
  exact ⟨rfl, rfl, rfl, Nat.le_refl _, fun _ _ => rfl⟩
theorem cut_len (l p : List UInt8) : (Lib.cut l p).1.length ≤ l.length ∧ (Lib.cut l p).2.1.length ≤ l.length := by
  unfold Lib.cut; split <;> simp <;> omega

theorem item_plain (s : ByteArray) (w : World) (he : Env w) (hs : s.size ≤ 281474976710656) (hs2 : s.size < 4294967281) (h1 : (Lib.cut s.data.toList [45]).2.2 = false) (h2 : (Lib.cut s.data.toList [120]).2.2 = false) :
    Calls Tryz.prog 57 #[.string s] w fun e w' => e = .returned (.tuple #[runV (itemR s.data.toList).1, .bool (itemR s.data.toList).2]) ∧ Below w.heap.size w w' := by
  rw [itemR, if_neg (by rw [h1]; simp), if_neg (by rw [h2]; simp)]
  have c1 := fun W hE => cut_any s 45 W hE hs2
  have c2 := fun W hE => cut_any s 120 W hE hs2
  rw [h1] at c1; rw [h2] at c2
  have cp := fun W hE => capped_any s W hE hs
  have cn := fun W => natural_any s W (by unfold maxLen; omega)
  generalize cap1 s.data.toList = v at cp ⊢
  generalize natB s.data.toList = b at cn ⊢
  have C1 := Lib.hid c1; have C2 := Lib.hid c2; have CP := Lib.hid cp; have CN := Lib.hid cn
  have HS := Lib.hid (St3.new he (.int .i64 0) (.int .i64 0) (.int .i64 0) 78)
  clear c1 c2 cp cn he hs hs2 h1 h2
  go_enter Tryz.func57, Tryz.ntmps57
  go_wp2_with (first
    | (go_at_call 81; refine (C1.out _ HS.out.env).mono ?_; rintro e w1 ⟨rfl, hb⟩; have HS := Lib.hid (HS.out.later hb); clear hb C1)
    | (go_at_call 81; refine (C2.out _ HS.out.env).mono ?_; rintro e w1 ⟨rfl, hb⟩; have HS := Lib.hid (HS.out.later hb); clear hb C2)
    | (go_at_call 82; refine (CP.out _ HS.out.env).mono ?_; rintro e w1 ⟨rfl, hb⟩; have HS := Lib.hid (HS.out.later hb); obtain ⟨_, _, hz, c0, c1, c2, q0, q1, q2⟩ := HS.out; clear hb)
    | (go_at_call 74; refine (CN.out _).mono ?_; rintro e w1 ⟨rfl, rfl⟩))
  refine bodyPost_ret (v := .tuple #[runV ⟨v, v, 1⟩, .bool b]) (by simp [results, Tryz.results57, go_sem, c0, c1, c2, q0, q1, q2, hz, runV]) rfl ⟨rfl, HS.out.stored _ _ _⟩


set_option maxHeartbeats 1000000 in
theorem item_dash (s n m : ByteArray) (w : World) (he : Env w) (hs : s.size < 4294967281) (hn : n.size ≤ s.size) (hm : m.size ≤ s.size) (h1 : Lib.cut s.data.toList [45] = (n.data.toList, m.data.toList, true)) :
    Calls Tryz.prog 57 #[.string s] w fun e w' => e = .returned (.tuple #[runV (itemR s.data.toList).1, .bool (itemR s.data.toList).2]) ∧ Below w.heap.size w w' := by
  rw [itemR, if_pos (by rw [h1]), h1]
  have c1 := fun W hE => cut_any s 45 W hE hs
  rw [h1] at c1
  simp only [ba_list] at c1 ⊢
  have cp1 := fun W hE => capped_any n W hE (by omega)
  have cp2 := fun W hE => capped_any m W hE (by omega)
  have cn1 := fun W => natural_any n W (by unfold maxLen; omega)
  have cn2 := fun W => natural_any m W (by unfold maxLen; omega)
  have cb := fun W => before_any n m W
  generalize cap1 n.data.toList = v1 at cp1 ⊢
  generalize cap1 m.data.toList = v2 at cp2 ⊢
  generalize natB n.data.toList = a at cn1 ⊢
  generalize natB m.data.toList = b at cn2 ⊢
  generalize beforeB n.data.toList m.data.toList = d at cb ⊢
  have C1 := Lib.hid c1; have CP1 := Lib.hid cp1; have CN1 := Lib.hid cn1; have CP2 := Lib.hid cp2; have CN2 := Lib.hid cn2; have CB := Lib.hid cb
  have HS := Lib.hid (St3.new he (.int .i64 0) (.int .i64 0) (.int .i64 0) 78)
  clear c1 cp1 cn1 cp2 cn2 cb he hs hn hm h1
  cases a <;> cases b <;> cases d
  all_goals
    go_enter Tryz.func57, Tryz.ntmps57
    go_wp2_with (first
      | (go_at_call 81; refine (C1.out _ HS.out.env).mono ?_; rintro e w1 ⟨rfl, hb⟩; have HS := Lib.hid (HS.out.later hb); clear hb)
      | (go_at_call_of 82 (Value.string n); refine (CP1.out _ HS.out.env).mono ?_; rintro e w1 ⟨rfl, hb⟩; have HS := Lib.hid (HS.out.later hb); obtain ⟨_, _, hz, c0, c1, c2, q0, q1, q2⟩ := HS.out; clear hb)
      | (go_at_call_of 82 (Value.string m); refine (CP2.out _ HS.out.env).mono ?_; rintro e w1 ⟨rfl, hb⟩; have HS := Lib.hid (HS.out.later hb); obtain ⟨_, _, hz, c0, c1, c2, q0, q1, q2⟩ := HS.out; clear hb)
      | (go_at_call_of 74 (Value.string n); refine (CN1.out _).mono ?_; rintro e w1 ⟨rfl, rfl⟩)
      | (go_at_call_of 74 (Value.string m); refine (CN2.out _).mono ?_; rintro e w1 ⟨rfl, rfl⟩)
      | (go_at_call 79; refine (CB.out _).mono ?_; rintro e w1 ⟨rfl, rfl⟩))
    refine bodyPost_ret (v := .tuple #[runV ⟨v1, v2, 1⟩, .bool _]) (by simp [results, Tryz.results57, go_sem, c0, c1, c2, q0, q1, q2, hz, runV]) rfl ⟨rfl, HS.out.stored _ _ _⟩
set_option maxHeartbeats 2000000 in
theorem item_x (s k n : ByteArray) (w : World) (he : Env w) (hs : s.size < 4294967281) (hk : k.size ≤ s.size) (hn : n.size ≤ s.size) (h1 : (Lib.cut s.data.toList [45]).2.2 = false) (h2 : Lib.cut s.data.toList [120] = (k.data.toList, n.data.toList, true)) :
    Calls Tryz.prog 57 #[.string s] w fun e w' => e = .returned (.tuple #[runV (itemR s.data.toList).1, .bool (itemR s.data.toList).2]) ∧ Below w.heap.size w w' := by
  rw [itemR, if_neg (by rw [h1]; simp), if_pos (by rw [h2]), h2]
  have c1 := fun W hE => cut_any s 45 W hE hs
  have c2 := fun W hE => cut_any s 120 W hE hs
  rw [h1] at c1; rw [h2] at c2
  simp only [ba_list] at c2 ⊢
  have cp1 := fun W hE => capped_any n W hE (by omega)
  have cp2 := fun W hE => capped_any k W hE (by omega)
  have cn1 := fun W => natural_any k W (by unfold maxLen; omega)
  have cn2 := fun W => natural_any n W (by unfold maxLen; omega)
  have cb := fun W => before_any ⟨#[49]⟩ k W
  generalize cap1 n.data.toList = v1 at cp1 ⊢
  generalize cap1 k.data.toList = v2 at cp2 ⊢
  generalize natB k.data.toList = a at cn1 ⊢
  generalize natB n.data.toList = b at cn2 ⊢
  change ∀ W, Calls _ _ _ W fun e w' => e = .returned (.bool (beforeB [49] k.data.toList)) ∧ W = w' at cb
  generalize beforeB [49] k.data.toList = d at cb ⊢
  have C1 := Lib.hid c1; have C2 := Lib.hid c2; have CP1 := Lib.hid cp1; have CN1 := Lib.hid cn1; have CP2 := Lib.hid cp2; have CN2 := Lib.hid cn2; have CB := Lib.hid cb
  have HS := Lib.hid (St3.new he (.int .i64 0) (.int .i64 0) (.int .i64 0) 78)
  clear c1 c2 cp1 cn1 cp2 cn2 cb he hs hn hk h1 h2
  cases a <;> cases b <;> cases d
  all_goals
    go_enter Tryz.func57, Tryz.ntmps57
    go_wp2_with (first
      | (go_at_call_of 81 (Value.string ⟨#[45]⟩); refine (C1.out _ HS.out.env).mono ?_; rintro e w1 ⟨rfl, hb⟩; have HS := Lib.hid (HS.out.later hb); clear hb)
      | (go_at_call_of 81 (Value.string ⟨#[120]⟩); refine (C2.out _ HS.out.env).mono ?_; rintro e w1 ⟨rfl, hb⟩; have HS := Lib.hid (HS.out.later hb); clear hb)
      | (go_at_call_of 82 (Value.string n); refine (CP1.out _ HS.out.env).mono ?_; rintro e w1 ⟨rfl, hb⟩; have HS := Lib.hid (HS.out.later hb); obtain ⟨_, _, hz, c0, c1, c2, q0, q1, q2⟩ := HS.out; clear hb)
      | (go_at_call_of 82 (Value.string k); refine (CP2.out _ HS.out.env).mono ?_; rintro e w1 ⟨rfl, hb⟩; have HS := Lib.hid (HS.out.later hb); obtain ⟨_, _, hz, c0, c1, c2, q0, q1, q2⟩ := HS.out; clear hb)
      | (go_at_call_of 74 (Value.string k); refine (CN1.out _).mono ?_; rintro e w1 ⟨rfl, rfl⟩)
      | (go_at_call_of 74 (Value.string n); refine (CN2.out _).mono ?_; rintro e w1 ⟨rfl, rfl⟩)
      | (go_at_call 79; refine (CB.out _).mono ?_; rintro e w1 ⟨rfl, rfl⟩))
    refine bodyPost_ret (v := .tuple #[runV ⟨v1, v1, v2⟩, .bool _]) (by simp [results, Tryz.results57, go_sem, c0, c1, c2, q0, q1, q2, hz, runV]) rfl ⟨rfl, HS.out.stored _ _ _⟩
theorem item_any (s : ByteArray) (w : World) (he : Env w) (hs : s.size < 4294967281) :
    Calls Tryz.prog 57 #[.string s] w fun e w' => e = .returned (.tuple #[runV (itemR s.data.toList).1, .bool (itemR s.data.toList).2]) ∧ Below w.heap.size w w' := by
  have l1 := cut_len s.data.toList [45]
  have l2 := cut_len s.data.toList [120]
  rw [size_list] at l1 l2
  by_cases h1 : (Lib.cut s.data.toList [45]).2.2 = true
  · exact item_dash s ⟨(Lib.cut s.data.toList [45]).1.toArray⟩ ⟨(Lib.cut s.data.toList [45]).2.1.toArray⟩ w he hs (by rw [ba_size]; exact l1.1) (by rw [ba_size]; exact l1.2) (by
      generalize Lib.cut s.data.toList [45] = r at h1 ⊢; obtain ⟨x, y, z⟩ := r; simp at h1 ⊢; exact h1)
  · have h1' : (Lib.cut s.data.toList [45]).2.2 = false := by simpa using h1
    by_cases h2 : (Lib.cut s.data.toList [120]).2.2 = true
    · exact item_x s ⟨(Lib.cut s.data.toList [120]).1.toArray⟩ ⟨(Lib.cut s.data.toList [120]).2.1.toArray⟩ w he hs (by rw [ba_size]; exact l2.1) (by rw [ba_size]; exact l2.2) h1' (by
        generalize Lib.cut s.data.toList [120] = r at h2 ⊢; obtain ⟨x, y, z⟩ := r; simp at h2 ⊢; exact h2)
    · exact item_plain s w he (by omega) hs h1' (by simpa using h2)
end Go.Proofs.YtgldpdbdgjehkaaGreatDoor
