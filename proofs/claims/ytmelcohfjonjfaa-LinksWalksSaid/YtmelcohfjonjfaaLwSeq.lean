/- A loop over an iterator whose contract asks something of the caller's invariant (R): so the body may change what the iterator reads. -/
import Derived.Test.YtmelcohfjonjfaaLkAll
import Derived.RangeFuncNested
namespace Go.Proofs.Ytmelcohfjonjfaa
open Go.RowKit Go.Shelf
attribute [local go_sem] Oper.semAt_some

def SeqR {α : Type} (F : Fence) (n : Nat) (P : Program) (g : Nat) (lb : Array Value) (encs : α → Array Value) (R : List α → World → Prop) (S Sp : List α → Prop) (N : List α → α → Prop) (w : World) : Prop :=
  ∀ (l : Nat) (J Jx : List α → World → Prop) (W : World), Below w.heap.size w W → OwnFrom W.heap.size J → OwnFrom W.heap.size Jx → (∀ pre W, J pre W → R pre W) →
    (∀ pre x W1, J pre W1 → N pre x → YieldAt F (n - 1) P l (encs x) W1 fun e W' => (e = .returned (.bool true) ∧ J (pre ++ [x]) W') ∨ (e = .returned (.bool false) ∧ Jx (pre ++ [x]) W')) →
    J [] W → CallsIn F n P g (#[.func (.yield l) #[] #[]] ++ lb) W fun e W' => (∃ v, e = .returned v) ∧ ((∃ xs, S xs ∧ J xs W') ∨ (∃ pre, Sp pre ∧ Jx pre W'))
theorem own_abides {β : Type} {B : Nat} {J : β → World → Prop} (h : OwnFrom B J) : AbidesFrom B J := fun s W W' row hs hg hr =>
  h s W W' row hs hg fun r e => by obtain ⟨hB, o, ho, hw⟩ := hr r e; exact ⟨hB, o, ho, Obj.not_cells_of_walk hw⟩
theorem alloc2 (w : World) (o1 o2 : Obj) : Below w.heap.size w ((w.alloc o1).alloc o2) ∧ ((w.alloc o1).alloc o2).heap.size = w.heap.size + 2 ∧
    ((w.alloc o1).alloc o2).heap[w.heap.size]? = some o1 ∧ ((w.alloc o1).alloc o2).heap[w.heap.size + 1]? = some o2 := by
  have s1 : (w.alloc o1).heap.size = w.heap.size + 1 := by simp
  have n1 := heap_alloc_new w o1
  have n2 := heap_alloc_new (w.alloc o1) o2
  rw [s1] at n2
  refine ⟨((Below.refl _ _).alloc (Nat.le_refl _) _).alloc (by omega) _, by simp, ?_, n2⟩
  rw [Below.heap_alloc _ _ _ (by omega), n1]
/-- A block that is not the one that was turned lies as it lay. -/
theorem lies {A B : World} {row : Option Nat} {k : Nat} {o : Obj} (hg : A.grownBy B row) (h : A.heap[k]? = some o) (hn : ∀ r, row = some r → k < r) : B.heap[k]? = some o :=
  (hg.block k (Array.getElem?_eq_some_iff.1 h).1 (fun e => Nat.lt_irrefl _ (hn k e.symm))).trans h
theorem kf_mono {B B' : Nat} {W W' : World} (h : KeepsFrom B W W') (hB : B ≤ B') : KeepsFrom B' W W' := ⟨h.size, fun k o hk => h.same k o (Nat.le_trans hB hk)⟩
theorem kf_put {B l : Nat} (hB : l < B) (W : World) (o : Obj) : KeepsFrom B W (W.putObj l o) := ⟨(grownBy_putObj' W l o).size, fun k o' hk h _ => (World.putObj_heap_other (by omega)).trans h⟩
theorem range_rel {α : Type} {F : Fence} {n : Nat} {P : Program} {w : World} {g : Operand} {ps : Array Tmp} {assign body : Code} {Q : Exit → Act → World → Prop} {a : Act}
    (hro : F.round = none) (h1 : 1 ≤ n) {gf : Nat} {lb : Array Value} (hg : a.eval g = .func (.func gf) #[] lb) (hFg : F.fn gf) (eg : ∀ args w, (callFunc gf args).run P w = .ok (.enter gf args) w)
    {encs : α → Array Value} {R : List α → World → Prop} {S Sp : List α → Prop} {N : List α → α → Prop} {w0 : World} (hseq : SeqR F (n - 1) P gf lb encs R S Sp N w0)
    (hb0 : Below w0.heap.size w0 w) (hps : ∀ x, (encs x).size = ps.size)
    (I : List α → World → Prop) (Ix : Code → List α → World → Prop) (hI : OwnFrom w.heap.size I) (hIx : ∀ c, OwnFrom w.heap.size (Ix c)) (hIR : ∀ pre W, I pre W → R pre W) (h0 : I [] w) (Ax : α → Act → World → Prop) (hAx : ∀ x a', OwnFrom w.heap.size (fun (_ : Unit) W => Ax x a' W))
    (hassign : ∀ (l : Nat) (pre : List α) (x : α) (W : World) (K : Act → World → Prop), I pre W → (∀ a' W', KeepsFrom w.heap.size W W' → I pre W' → Ax x a' W' → K a' W') →
      assign.wpIn (F.inRound l) (n - 1 - 1) P (Exit.then K (fun _ _ _ => False)) { tmps := (ps.zip (encs x)).foldl (fun t (p, v) => t.setIfInBounds p v) a.tmps, defers := [] } W)
    (hbody : ∀ (l : Nat) (pre : List α) (x : α) (a' : Act) (W : World), w.heap.size ≤ l → I pre W → Ax x a' W → N pre x → body.wpIn (F.inRound l) (n - 1 - 1) P (ownPostG w.heap.size (fun _ _ => True) I Ix (pre ++ [x]) W) a' W)
    (hdone : ∀ (D : Nat) (xs : List α) (W : World), w.heap.size ≤ D → S xs → I xs W → W.heap[D]? = some (.deferred (some [])) → Q .normal { a with defers := { target := .collected D, args := #[] } :: a.defers } W)
    (hstop : ∀ (D : Nat) (c : Code) (pre : List α) (W : World), w.heap.size ≤ D → Sp pre → Ix c pre W → W.heap[D]? = some (.deferred (some [])) → c.wpIn F n P Q { a with defers := { target := .collected D, args := #[] } :: a.defers } W) :
    (Code.rangeFunc g ps assign body).wpIn F n P Q a w := by
  refine wpIn_rangeFunc fun fn hfn => ?_
  rw [hro]
  -- the loop's two blocks: the record at b + 1, what the rounds defer at b
  obtain ⟨b, hb⟩ : ∃ b, b = w.heap.size := ⟨_, rfl⟩
  rw [← hb] at hI hIx hAx hassign hbody hdone hstop
  obtain ⟨Rc, hR⟩ : ∃ R : LoopState → Option Code → Loop, R = fun st pe => { state := st, pending := pe, fn, tmps := a.tmps, params := ps, assign, body, defers := b } := ⟨_, rfl⟩
  have hRp : ∀ st pe, (Rc st pe).params = ps := fun st pe => by rw [hR]
  have hRs : ∀ st pe, (Rc st pe).state = st := fun st pe => by rw [hR]
  have hRq : ∀ st pe, (Rc st pe).pending = pe := fun st pe => by rw [hR]
  have hRb : ∀ st pe, { Rc st pe with state := LoopState.busy } = Rc .busy pe := fun st pe => by rw [hR]
  have hRe : ∀ st pe st' pe', { Rc st pe with state := st', pending := pe' } = Rc st' pe' := fun st pe st' pe' => by rw [hR]
  have hRx : ∀ st pe st', { Rc st pe with state := st' } = Rc st' pe := fun st pe st' => by rw [hR]
  obtain ⟨V, hV⟩ : ∃ V, V = (w.alloc (.deferred (some []))).alloc (.loop (Rc .ready none)) := ⟨_, rfl⟩
  obtain ⟨v1, v2, v3, v4⟩ := alloc2 w (.deferred (some [])) (.loop (Rc .ready none))
  rw [← hV] at v1 v2 v3 v4
  have hIV : I [] V := by rw [hV]; exact hI.alloc _ (hI.alloc _ h0)
  refine ⟨b + 1, [{ target := .collected b, args := #[] }], V, { target := .fn (.func gf) lb, args := #[.func (.yield (b + 1)) #[] #[]] }, V, gf, #[.func (.yield (b + 1)) #[] #[]] ++ lb, V, ?_, ?_, ?_, ?_, fun _ => h1, ?_⟩
  · rw [hV, hR, hb]; exact run_enterLoop_outer _ _ _ _ _
  · simp only [resolve, hg]; simp [go_sem]
  · intro f' hf'; simp [Target.leads] at hf'; subst hf'; exact hFg
  · simp [invoke, go_sem, eg]
  rw [← hb] at v2 v3 v4
  have hput : ∀ {W : World} {o o' : Obj}, W.heap[b + 1]? = some o → (W.putObj (b + 1) o').heap[b + 1]? = some o' ∧ (W.putObj (b + 1) o').heap[b]? = W.heap[b]? :=
    fun h => ⟨World.putObj_heap_same (Array.getElem?_eq_some_iff.1 h).1, World.putObj_heap_other (by omega)⟩
  have up : ∀ {A : World} {row : Option Nat}, (∀ r, row = some r → V.heap.size ≤ r ∧ ∃ o : Obj, A.heap[r]? = some o ∧ o.isCells = false) → (∀ r, row = some r → b ≤ r ∧ ∃ o : Obj, A.heap[r]? = some o ∧ o.isCells = false) :=
    fun hr r e => ⟨by have := (hr r e).1; omega, (hr r e).2⟩
  have off : ∀ {A : World} {row : Option Nat}, (∀ r, row = some r → V.heap.size ≤ r ∧ ∃ o : Obj, A.heap[r]? = some o ∧ o.isCells = false) → ∀ k, k ≤ b + 1 → ∀ r, row = some r → k < r := fun hr k hk r e => by have := (hr r e).1; omega
  refine (hseq (b + 1) (fun pre W => I pre W ∧ W.heap[b + 1]? = some (.loop (Rc .ready none)) ∧ W.heap[b]? = some (.deferred (some [])))
    (fun pre W => ∃ c, Ix c pre W ∧ W.heap[b + 1]? = some (.loop (Rc .done (some c))) ∧ W.heap[b]? = some (.deferred (some []))) V (hb0.trans (v1.mono hb0.size)) ?_ ?_ ?_ ?_ ⟨hIV, v4, v3⟩).mono ?_
  · exact fun s A B row hs hgr hr => ⟨hI s A B row hs.1 hgr (up hr), lies hgr hs.2.1 (off hr _ (Nat.le_refl _)), lies hgr hs.2.2 (off hr _ (Nat.le_succ _))⟩
  · rintro s A B row ⟨c, hc, hl, hk⟩ hgr hr
    exact ⟨c, hIx c s A B row hc hgr (up hr), lies hgr hl (off hr _ (Nat.le_refl _)), lies hgr hk (off hr _ (Nat.le_succ _))⟩
  · exact fun pre W h => hIR pre W h.1
  · -- a round
    rintro pre x W ⟨hi, hl, hk⟩ hlen
    have hy := run_yield (P := P) (args := encs x) hl (by rw [hRp]; exact hps x)
    rw [hR] at hy
    refine ⟨fn, _, assign, body, hy, roundIn_of_wpIn hfn (hassign _ pre x W _ hi fun a' Wa hkf hia hax => ?_)⟩
    have hl := hkf.same _ _ (by omega) hl rfl
    have hk := hkf.same _ _ (Nat.le_refl _) hk rfl
    refine ⟨_, run_beginRound hl (hRs _ _), ?_⟩
    rw [hRb]
    obtain ⟨p1, p2⟩ := hput (o' := .loop (Rc .busy none)) hl
    refine wpIn_mono (hbody _ pre x a' _ (by omega) (hI.putObj _ hia (by omega) hl rfl) ((hAx x a').putObj (s := ()) _ hax (by omega) hl rfl) hlen) ?_
    have fin : ∀ (jump : Option Code) (Z : World), KeepsFrom b (Wa.putObj (b + 1) (.loop (Rc .busy none))) Z → Z.heap[b + 1]? = some (.loop (Rc .busy none)) ∧
        (Instr.endRound (b + 1) jump).run P Z = .ok (.bool jump.isNone) (Z.putObj (b + 1) (.loop (Rc (if jump.isNone then .ready else .done) jump))) ∧
        (Z.putObj (b + 1) (.loop (Rc (if jump.isNone then .ready else .done) jump))).heap[b + 1]? = some (.loop (Rc (if jump.isNone then .ready else .done) jump)) ∧
        (Z.putObj (b + 1) (.loop (Rc (if jump.isNone then .ready else .done) jump))).heap[b]? = some (.deferred (some [])) := fun jump Z hz => by
      have z1 := hz.same _ _ (by omega) p1 rfl
      have z2 := hz.same _ _ (Nat.le_refl _) (p2.trans hk) rfl
      have z3 := run_endRound (P := P) jump z1
      rw [hRe] at z3
      exact ⟨z1, z3, (hput z1).1, (hput z1).2.trans z2⟩
    rintro e a3 Z hp
    cases e with
    | normal =>
      obtain ⟨hz, _, hzi⟩ := hp
      obtain ⟨z1, z2, z3, z4⟩ := fin none Z hz
      exact ⟨_, _, z2, .inl ⟨rfl, hI.putObj _ hzi (by omega) z1 rfl, z3, z4⟩⟩
    | ret => obtain ⟨z1, z2, z3, z4⟩ := fin (some .ret) Z hp.1; exact ⟨_, _, z2, .inr ⟨rfl, ⟨_, (hIx _).putObj _ hp.2 (by omega) z1 rfl, z3, z4⟩⟩⟩
    | exit id => obtain ⟨z1, z2, z3, z4⟩ := fin (some (.exit id)) Z hp.1; exact ⟨_, _, z2, .inr ⟨rfl, ⟨_, (hIx _).putObj _ hp.2 (by omega) z1 rfl, z3, z4⟩⟩⟩
    | goto t => obtain ⟨z1, z2, z3, z4⟩ := fin (some (.goto t)) Z hp.1; exact ⟨_, _, z2, .inr ⟨rfl, ⟨_, (hIx _).putObj _ hp.2 (by omega) z1 rfl, z3, z4⟩⟩⟩
    | panic ch => exact hp.elim
    | outgrown => exact hp.elim
  · -- behind the iterator
    rintro e Z ⟨⟨v, rfl⟩, ⟨xs, hS, hi, hl, hk⟩ | ⟨pre, hSp, c, hi, hl, hk⟩⟩
    · have he := run_endLoop (P := P) hl (by rw [hRs]; simp)
      exact ⟨none, _, by rw [hRq] at he; exact he, hdone _ xs _ (Nat.le_refl _) hS (hI.putObj _ hi (by omega) hl rfl) ((hput hl).2.trans hk)⟩
    · have he := run_endLoop (P := P) hl (by rw [hRs]; simp)
      exact ⟨some c, _, by rw [hRq] at he; exact he, hstop _ c pre _ (Nat.le_refl _) hSp ((hIx c).putObj _ hi (by omega) hl rfl) ((hput hl).2.trans hk)⟩
end Go.Proofs.Ytmelcohfjonjfaa
