/-
  Tables, plainly: which are right (chkT).
-/
import Derived.Test.YtdfjhhdojmlmlaaMath
namespace Go.Proofs.Ytdfjhhdojmlmlaa
namespace Cg
/-- May an act stand at a terminal, or at the end? -/
def okAct (S pl : Int) (atEnd : Bool) (a : Sy) : Bool :=
  if a.1 = 0 then a.2 == 0 else if a.1 = 1 then !atEnd && okN S a.2 else if a.1 = 2 then okN pl a.2 else if a.1 = 3 then atEnd && a.2 == 0 else false
/-- Acts from column q on. -/
def okFrom (t S pl : Int) : Nat → List Sy → Bool
  | _, [] => true
  | q, a :: l => okAct S pl ((q : Int) == t) a && okFrom t S pl (q + 1) l
def okActs (t S pl : Int) (l : List Sy) : Bool := decide ((l.length : Int) = t + 1) && okFrom t S pl 0 l
def okTo (S x : Int) : Bool := x == -1 || okN S x
def okNext (n S : Int) (l : List Int) : Bool := decide ((l.length : Int) = n) && l.all (okTo S)
def okTab (t n S pl : Int) : List (List Sy) → List (List Int) → Bool
  | a :: al, g :: gs => okActs t S pl a && okNext n S g && okTab t n S pl al gs
  | _, _ => true
def chkT (t n : Int) (ps : List Pd) (al : List (List Sy)) (gs : List (List Int)) : Int :=
  if chk t n ps = 0 then (if 200 < al.length then 2 else if al.length = 0 then 1 else if gs.length = al.length then (if okTab t n al.length ps.length al gs = true then 0 else 1) else 1) else chk t n ps
theorem okFrom_at {t S pl : Int} {l : List Sy} {q : Nat} (h : q < l.length) : okFrom t S pl q (l.drop q) = (okAct S pl ((q : Int) == t) l[q] && okFrom t S pl (q + 1) (l.drop (q + 1))) := by
  rw [List.drop_eq_getElem_cons h]; rfl
theorem okTab_at {t n S pl : Int} {al : List (List Sy)} {gs : List (List Int)} {q : Nat} (h : q < al.length) (h2 : q < gs.length) : okTab t n S pl (al.drop q) (gs.drop q) = (okActs t S pl al[q] && okNext n S gs[q] && okTab t n S pl (al.drop (q + 1)) (gs.drop (q + 1))) := by
  rw [List.drop_eq_getElem_cons h, List.drop_eq_getElem_cons h2]; rfl
theorem okTab_end {t n S pl : Int} {al : List (List Sy)} {gs : List (List Int)} {q : Nat} (h : al.length ≤ q) : okTab t n S pl (al.drop q) (gs.drop q) = true := by
  rw [List.drop_of_length_le h]; rfl
end Cg
end Go.Proofs.Ytdfjhhdojmlmlaa
