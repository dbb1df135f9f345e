/- A drawn region at a class of worlds, operation by operation, what remains of it behind a name: so no step unfolds what follows. -/
import Derived.Test.YtnhbilcpdombfaaSpBestMath
import Derived.Deep.QuietTactic
import Derived.BigQuiet
namespace Go.Proofs.Ytnhbilcpdombfaa
open Go.RowKit

structure QRest (P : Program) (ops : Array Oper) (C : World → Prop) (Q : Act → Prop) (rest : List Oper) (a : Act) : Prop where
  out : wpQuiet P ops C Q rest a
section
variable {P : Program} {ops : Array Oper} {C : World → Prop} {Q : Act → Prop} {a : Act} {o : Oper} {rest : List Oper}
theorem q_want (hw : Region.wanted o (yielded ops a.tmps) = true) (h : ∀ K : Act → Prop, (∀ a, QRest P ops C Q rest a → K a) → o.quiet P a C K) : QRest P ops C Q (o :: rest) a :=
  ⟨BigFrame.wpQuiet_want hw fun K hK => h K fun a h => hK a h.out⟩
theorem q_skip (hw : Region.wanted o (yielded ops a.tmps) = false) (h : QRest P ops C Q rest (a.put o.dst undef)) : QRest P ops C Q (o :: rest) a := ⟨BigFrame.wpQuiet_skip hw h.out⟩
theorem q_nil (h : Q a) : QRest P ops C Q [] a := ⟨wpQuiet_nil h⟩
end
theorem region_q {P : Program} {C : World → Prop} {id : Nat} {Q : Exit → Act → World → Prop} {a : Act} {w : World} {l : List Oper} (hm : P.follows .mixedOrders = true) (hB : Region.lexB .any l.toArray = true) (hC : C w.drew)
    (h : QRest P l.toArray C (fun a' => ∀ w', C w' → Q .normal a' w') l a) : (Code.region id l.toArray true).wp P Q a w :=
  region_below hm hB hC h.out
structure QRestIn (F : Fence) (n : Nat) (P : Program) (ops : Array Oper) (C : World → Prop) (Q : Act → Prop) (rest : List Oper) (a : Act) : Prop where
  out : wpQuietIn F n P ops C Q rest a
section
variable {F : Fence} {n : Nat} {P : Program} {ops : Array Oper} {C : World → Prop} {Q : Act → Prop} {a : Act} {o : Oper} {rest : List Oper}
theorem qi_want (ha : o.askedIn F P a C) (hw : Region.wanted o (yielded ops a.tmps) = true) (h : ∀ K : Act → Prop, (∀ a, QRestIn F n P ops C Q rest a → K a) → o.quietIn F n P a C K) : QRestIn F n P ops C Q (o :: rest) a :=
  ⟨BigFrame.wpQuietIn_want ha hw fun K hK => h K fun a h => hK a h.out⟩
theorem qi_skip (ha : o.askedIn F P a C) (hw : Region.wanted o (yielded ops a.tmps) = false) (h : QRestIn F n P ops C Q rest (a.put o.dst undef)) : QRestIn F n P ops C Q (o :: rest) a := ⟨BigFrame.wpQuietIn_skip ha hw h.out⟩
theorem qi_nil (h : Q a) : QRestIn F n P ops C Q [] a := ⟨wpQuietIn_nil h⟩
end
theorem region_qi {F : Fence} {n : Nat} {P : Program} {C : World → Prop} {id : Nat} {Q : Exit → Act → World → Prop} {a : Act} {w : World} {l : List Oper} (hro : F.round = none) (hm : P.follows .mixedOrders = true) (hB : Region.lexB .any l.toArray = true) (hC : C w.drew)
    (h : QRestIn F n P l.toArray C (fun a' => ∀ w', C w' → Q .normal a' w') l a) : (Code.region id l.toArray true).wpIn F n P Q a w :=
  region_class hro hm hB hC h.out
end Go.Proofs.Ytnhbilcpdombfaa
