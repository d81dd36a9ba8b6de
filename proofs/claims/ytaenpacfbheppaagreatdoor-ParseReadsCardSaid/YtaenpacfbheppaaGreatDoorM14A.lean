/- Statements as trees: how the program reads them off their tokens; pure. What reading takes away: never more than is there. A ground for walks over a reader of tokens: boxes, trees and the reader's state as they lie; each operation's law. Each operation's law, said of what a walk knows. The laws of operations, in short: what is seen by computing is left out. What a function of the program's parser comes to; its first functions. -/
import Derived.Test.YtaenpacfbheppaaGreatDoorS13
import Derived.Great.BuildSlice
set_option maxHeartbeats 16000000
set_option maxRecDepth 100000
set_option linter.unusedVariables false
set_option linter.unusedSimpArgs false
namespace Go.Proofs.YtaenpacfbheppaaGreatDoor

inductive Tr where
  | mk (op s : List UInt8) (n : Int) (L : List Tr)
def Tr.op : Tr → List UInt8 | .mk o _ _ _ => o
def Tr.s : Tr → List UInt8 | .mk _ s _ _ => s
def Tr.n : Tr → Int | .mk _ _ n _ => n
def Tr.L : Tr → List Tr | .mk _ _ _ l => l
abbrev nd (op s : List UInt8) (L : List Tr) : Tr := .mk op s 0 L
abbrev Ps (α : Type) := List Tok → Option (α × List Tok)
def sdB (k : Nat) (kd : Int) (s : List UInt8) (ts : List Tok) : Bool := match ts.drop k with
  | [] => false
  | t :: _ => t.k == kd && t.s == s
def tkB : List (List UInt8) → List Tok → Bool
  | [], _ => true
  | _ :: _, [] => false
  | w :: ws, t :: ts => t.k == 0 && t.s == w && tkB ws ts
def tkR (ws : List (List UInt8)) (ts : List Tok) : List Tok := if tkB ws ts then ts.drop ws.length else ts
def needF (ws : List (List UInt8)) (ts : List Tok) : Option (List Tok) := if tkB ws ts then some (tkR ws ts) else none
def oneF (kd : Int) (of : List (List UInt8)) : Ps (List UInt8)
  | [] => none
  | t :: r => if t.k == kd && of.contains t.s then some (t.s, r) else none
def sgF (s : List UInt8) : Ps (List UInt8) := oneF 3 [s]
def takF (kd : Int) : Ps Tok
  | [] => none
  | t :: r => if t.k == kd then some (t, r) else none
def numF (ts : List Tok) : Option (Int × List Tok) := match takF 1 ts with
  | none => none
  | some (t, r) => some (t.n, r)
def nameF (ts : List Tok) : Option (List UInt8 × List Tok) := match takF 0 ts with
  | none => none
  | some (t, r) => if resL.contains t.s then none else some (t.s, r)
def atnB : List Tok → Bool
  | [] => false
  | t :: _ => t.k == 0 && !resL.contains t.s
def aliasF (ts : List Tok) : Option (List UInt8 × List Tok) :=
  if tkB [[97, 115]] ts then nameF (tkR [[97, 115]] ts) else if atnB ts then nameF ts else some ([], ts)
def opnN (ts : List Tok) : Nat := (ts.takeWhile fun t => t.k == 3 && t.s == [40]).length
def opnB (ts : List Tok) : Bool := decide (0 < opnN ts) && sdB (opnN ts) 0 [115, 101, 108, 101, 99, 116] ts
def parF {α : Type} (I : Ps α) (ts : List Tok) : Option (α × List Tok) := match sgF [40] ts with
  | none => none
  | some (_, r) => match I r with
    | none => none
    | some (x, r2) => match sgF [41] r2 with
      | none => none
      | some (_, r3) => some (x, r3)
def lsN (I : Ps Tr) : Nat → List Tr → List Tok → Option (List Tr × List Tok)
  | 0, _, _ => none
  | n + 1, a, ts => match sgF [44] ts with
    | none => some (a, ts)
    | some (_, r) => match I r with
      | none => none
      | some (x, r2) => lsN I n (a ++ [x]) r2
def lsF (I : Ps Tr) (ts : List Tok) : Option (List Tr × List Tok) := match I ts with
  | none => none
  | some (x, r) => lsN I (r.length + 1) [x] r
abbrev Lk := List Tok → Option ((List UInt8 × Int) × List Tok)
def chN (I : Ps Tr) (K : Lk) : Nat → Tr → List Tok → Option (Tr × List Tok)
  | 0, _, _ => none
  | n + 1, a, ts => match K ts with
    | none => some (a, ts)
    | some ((op, m), r) => match I r with
      | none => none
      | some (x, r2) => chN I K n (.mk op [] m [a, x]) r2
def chF (I : Ps Tr) (K : Lk) (ts : List Tok) : Option (Tr × List Tok) := match I ts with
  | none => none
  | some (x, r) => chN I K (r.length + 1) x r
structure Rc where
  expr : Ps Tr
  body : Ps Tr
  neg : Ps Tr
  fac : Ps Tr
  tab : Ps Tr
def namF (ts : List Tok) : Option (Tr × List Tok) := match nameF ts with
  | none => none
  | some (s, r) => some (nd [110, 97, 109, 101] s [], r)
def namesF (ts : List Tok) : Option (List Tr × List Tok) := parF (lsF namF) ts
def colF (ts : List Tok) : Option (Tr × List Tok) := match nameF ts with
  | none => none
  | some (s, r) => match sgF [46] r with
    | none => some (nd [99, 111, 108] s [], r)
    | some (_, r2) => match nameF r2 with
      | none => none
      | some (c, r3) => some (nd [99, 111, 108] c [nd [111, 102] s []], r3)
def typF (ts : List Tok) : Option (Tr × List Tok) :=
  if tkB [[115, 109, 97, 108, 108, 105, 110, 116]] ts then some (nd [116, 121, 112, 101] [115, 109, 97, 108, 108, 105, 110, 116] [], tkR [[115, 109, 97, 108, 108, 105, 110, 116]] ts)
  else if tkB [[105, 110, 116, 101, 103, 101, 114]] ts then some (nd [116, 121, 112, 101] [105, 110, 116, 101, 103, 101, 114] [], tkR [[105, 110, 116, 101, 103, 101, 114]] ts)
  else if tkB [[105, 110, 116]] ts then some (nd [116, 121, 112, 101] [105, 110, 116, 101, 103, 101, 114] [], tkR [[105, 110, 116]] ts)
  else if tkB [[98, 105, 103, 105, 110, 116]] ts then some (nd [116, 121, 112, 101] [98, 105, 103, 105, 110, 116] [], tkR [[98, 105, 103, 105, 110, 116]] ts)
  else if tkB [[98, 111, 111, 108, 101, 97, 110]] ts then some (nd [116, 121, 112, 101] [98, 111, 111, 108, 101, 97, 110] [], tkR [[98, 111, 111, 108, 101, 97, 110]] ts)
  else if tkB [[99, 104, 97, 114]] ts then chrF (tkR [[99, 104, 97, 114]] ts)
  else if tkB [[99, 104, 97, 114, 97, 99, 116, 101, 114]] ts then chrF (tkR [[99, 104, 97, 114, 97, 99, 116, 101, 114]] ts)
  else match needF [[118, 97, 114, 99, 104, 97, 114]] ts with
    | none => none
    | some r => match parF numF r with
      | none => none
      | some (n, r2) => some (.mk [116, 121, 112, 101] [118, 97, 114, 99, 104, 97, 114] n [], r2)
where chrF (r : List Tok) : Option (Tr × List Tok) :=
  if sdB 0 3 [40] r then match parF numF r with
    | none => none
    | some (n, r2) => some (.mk [116, 121, 112, 101] [99, 104, 97, 114] n [], r2)
  else some (.mk [116, 121, 112, 101] [99, 104, 97, 114] 1 [], r)
variable (R : Rc)
def castF (ts : List Tok) : Option (Tr × List Tok) := match R.expr ts with
  | none => none
  | some (e, r) => match needF [[97, 115]] r with
    | none => none
    | some r2 => match typF r2 with
      | none => none
      | some (t, r3) => some (nd [99, 97, 115, 116] [] [t, e], r3)
def nullifF (ts : List Tok) : Option (Tr × List Tok) := match R.expr ts with
  | none => none
  | some (e, r) => match sgF [44] r with
    | none => none
    | some (_, r2) => match R.expr r2 with
      | none => none
      | some (f, r3) => some (nd [110, 117, 108, 108, 105, 102] [] [e, f], r3)
def distF (ts : List Tok) : Int × List Tok :=
  if tkB [[100, 105, 115, 116, 105, 110, 99, 116]] ts then (1, tkR [[100, 105, 115, 116, 105, 110, 99, 116]] ts) else (0, tkR [[97, 108, 108]] ts)
def totE (op : List UInt8) (ts : List Tok) : Option (Tr × List Tok) := match R.expr (distF ts).2 with
  | none => none
  | some (e, r) => some (.mk op [] (distF ts).1 [e], r)
def totF (op : List UInt8) (ts : List Tok) : Option (Tr × List Tok) :=
  if op == [99, 111, 117, 110, 116] then (match sgF [42] ts with
    | some (_, r) => some (nd [99, 111, 117, 110, 116, 42] [] [], r)
    | none => totE R op ts)
  else totE R op ts
def whenF (of : Option Tr) (ts : List Tok) : Option (Tr × List Tok) := match needF [[119, 104, 101, 110]] ts with
  | none => none
  | some r => match R.expr r with
    | none => none
    | some (c, r2) => match needF [[116, 104, 101, 110]] r2 with
      | none => none
      | some r3 => match R.expr r3 with
        | none => none
        | some (e, r4) => some (nd [119, 104, 101, 110] [] [(match of with | none => c | some o => nd [61] [] [o, c]), e], r4)
def whN (of : Option Tr) : Nat → List Tr → List Tok → Option (List Tr × List Tok)
  | 0, _, _ => none
  | n + 1, a, ts => if sdB 0 0 [119, 104, 101, 110] ts then match whenF R of ts with
      | none => none
      | some (x, r) => whN of n (a ++ [x]) r
    else some (a, ts)
def caseEndF (a : List Tr) (last : Tr) (ts : List Tok) : Option (Tr × List Tok) := match needF [[101, 110, 100]] ts with
  | none => none
  | some r => some (nd [99, 97, 115, 101] [] (a ++ [last]), r)
def caseWhF (of : Option Tr) (ts : List Tok) : Option (Tr × List Tok) := match whenF R of ts with
  | none => none
  | some (x, r) => match whN R of (r.length + 1) [x] r with
    | none => none
    | some (a, r2) => if tkB [[101, 108, 115, 101]] r2 then match R.expr (tkR [[101, 108, 115, 101]] r2) with
        | none => none
        | some (e, r3) => caseEndF a e r3
      else caseEndF a (nd [110, 117, 108, 108] [] []) r2
def caseF (ts : List Tok) : Option (Tr × List Tok) :=
  if sdB 0 0 [119, 104, 101, 110] ts then caseWhF R none ts
  else match R.expr ts with
    | none => none
    | some (o, r) => caseWhF R (some o) r
def wopF (ts : List Tok) : Option (Tr × List Tok) :=
  if tkB [[116, 114, 117, 101]] ts then some (.mk [98, 111, 111, 108] [] 1 [], tkR [[116, 114, 117, 101]] ts)
  else if tkB [[102, 97, 108, 115, 101]] ts then some (nd [98, 111, 111, 108] [] [], tkR [[102, 97, 108, 115, 101]] ts)
  else if tkB [[110, 117, 108, 108]] ts then some (nd [110, 117, 108, 108] [] [], tkR [[110, 117, 108, 108]] ts)
  else if tkB [[101, 120, 105, 115, 116, 115]] ts then match parF R.body (tkR [[101, 120, 105, 115, 116, 115]] ts) with
    | none => none
    | some (b, r) => some (nd [101, 120, 105, 115, 116, 115] [] [b], r)
  else if tkB [[99, 97, 115, 101]] ts then caseF R (tkR [[99, 97, 115, 101]] ts)
  else if tkB [[99, 97, 115, 116]] ts then parF (castF R) (tkR [[99, 97, 115, 116]] ts)
  else if tkB [[99, 111, 97, 108, 101, 115, 99, 101]] ts then match parF (lsF R.expr) (tkR [[99, 111, 97, 108, 101, 115, 99, 101]] ts) with
    | none => none
    | some (l, r) => some (nd [99, 111, 97, 108, 101, 115, 99, 101] [] l, r)
  else if tkB [[110, 117, 108, 108, 105, 102]] ts then parF (nullifF R) (tkR [[110, 117, 108, 108, 105, 102]] ts)
  else match oneF 0 [[99, 111, 117, 110, 116], [115, 117, 109], [109, 105, 110], [109, 97, 120]] ts with
    | some (op, r) => parF (totF R op) r
    | none => colF ts
def oprF (ts : List Tok) : Option (Tr × List Tok) := match ts with
  | [] => none
  | t :: r =>
    if t.k == 1 then some (.mk [110, 117, 109] [] t.n [], r)
    else if t.k == 2 then some (nd [116, 101, 120, 116] t.s [], r)
    else if t.k == 3 then (if opnB (t :: r) then match parF R.body (t :: r) with
        | none => none
        | some (b, r2) => some (nd [115, 99, 97, 108, 97, 114] [] [b], r2)
      else parF R.expr (t :: r))
    else wopF R (t :: r)
def facF (ts : List Tok) : Option (Tr × List Tok) := match sgF [45] ts with
  | some (_, r) => (match R.fac r with
    | none => none
    | some (x, r2) => some (nd [110, 101, 103] [] [x], r2))
  | none => oprF R ts
def sgLk (of : List (List UInt8)) : Lk := fun ts => match oneF 3 of ts with
  | none => none
  | some (op, r) => some ((op, 0), r)
def wdLk (s : List UInt8) : Lk := fun ts => if tkB [s] ts then some ((s, 0), tkR [s] ts) else none
def proF (ts : List Tok) : Option (Tr × List Tok) := chF (facF R) (sgLk [[42], [47]]) ts
def sumF (ts : List Tok) : Option (Tr × List Tok) := chF (proF R) (sgLk [[43], [45], [124, 124]]) ts
def turnT (b : Bool) (t : Tr) : Tr := if b then nd [110, 111, 116] [] [t] else t
def cmpF (s : Tr) (sg : List UInt8) (ts : List Tok) : Option (Tr × List Tok) :=
  if tkB [[97, 110, 121]] ts then anyF [97, 110, 121] (tkR [[97, 110, 121]] ts)
  else if tkB [[115, 111, 109, 101]] ts then anyF [97, 110, 121] (tkR [[115, 111, 109, 101]] ts)
  else if tkB [[97, 108, 108]] ts then anyF [97, 108, 108] (tkR [[97, 108, 108]] ts)
  else match sumF R ts with
    | none => none
    | some (x, r) => some (nd sg [] [s, x], r)
where anyF (op : List UInt8) (r : List Tok) : Option (Tr × List Tok) := match parF R.body r with
  | none => none
  | some (b, r2) => some (nd op sg [s, b], r2)
def istF (s : Tr) (ts : List Tok) : Option (Tr × List Tok) := match oneF 0 [[110, 117, 108, 108], [116, 114, 117, 101], [102, 97, 108, 115, 101], [117, 110, 107, 110, 111, 119, 110]] ts with
  | none => none
  | some (w, r) => some (nd [105, 115] w [s], r)
def wtF (s : Tr) (ts : List Tok) : Option (Option Tr × List Tok) :=
  if tkB [[98, 101, 116, 119, 101, 101, 110]] ts then match sumF R (tkR [[98, 101, 116, 119, 101, 101, 110]] ts) with
    | none => none
    | some (lo, r) => match needF [[97, 110, 100]] r with
      | none => none
      | some r2 => match sumF R r2 with
        | none => none
        | some (hi, r3) => some (some (nd [98, 101, 116, 119, 101, 101, 110] [] [s, lo, hi]), r3)
  else if tkB [[108, 105, 107, 101]] ts then match sumF R (tkR [[108, 105, 107, 101]] ts) with
    | none => none
    | some (x, r) => some (some (nd [108, 105, 107, 101] [] [s, x]), r)
  else if tkB [[105, 110]] ts then (if opnB (tkR [[105, 110]] ts) then match parF R.body (tkR [[105, 110]] ts) with
      | none => none
      | some (b, r) => some (some (nd [105, 110] [113, 117, 101, 114, 121] [s, b]), r)
    else match parF (lsF R.expr) (tkR [[105, 110]] ts) with
      | none => none
      | some (l, r) => some (some (nd [105, 110] [] (s :: l)), r))
  else some (none, ts)
def tstF (ts : List Tok) : Option (Tr × List Tok) := match sumF R ts with
  | none => none
  | some (s, r) => match oneF 3 [[61], [60, 62], [60], [60, 61], [62], [62, 61]] r with
    | some (sg, r2) => cmpF R s sg r2
    | none => if tkB [[105, 115]] r then match istF s (tkR [[110, 111, 116]] (tkR [[105, 115]] r)) with
        | none => none
        | some (t, r2) => some (turnT (tkB [[110, 111, 116]] (tkR [[105, 115]] r)) t, r2)
      else match wtF R s (tkR [[110, 111, 116]] r) with
        | none => none
        | some (some t, r2) => some (turnT (tkB [[110, 111, 116]] r) t, r2)
        | some (none, r2) => if tkB [[110, 111, 116]] r then none else some (s, r2)
def negF (ts : List Tok) : Option (Tr × List Tok) :=
  if tkB [[110, 111, 116]] ts then match R.neg (tkR [[110, 111, 116]] ts) with
    | none => none
    | some (x, r) => some (nd [110, 111, 116] [] [x], r)
  else tstF R ts
def conF (ts : List Tok) : Option (Tr × List Tok) := chF (negF R) (wdLk [97, 110, 100]) ts
def exprF (ts : List Tok) : Option (Tr × List Tok) := chF (conF R) (wdLk [111, 114]) ts
def clsF (w : List UInt8) (ts : List Tok) : Option (Tr × List Tok) :=
  if tkB [w] ts then match R.expr (tkR [w] ts) with
    | none => none
    | some (e, r) => some (nd w [] [e], r)
  else some (nd w [] [], ts)
def itmF (ts : List Tok) : Option (Tr × List Tok) := match sgF [42] ts with
  | some (_, r) => some (nd [115, 116, 97, 114] [] [], r)
  | none => if atnB ts && sdB 1 3 [46] ts && sdB 2 3 [42] ts then match nameF ts with
      | none => none
      | some (s, r) => match sgF [46] r with
        | none => none
        | some (_, r2) => match sgF [42] r2 with
          | none => none
          | some (_, r3) => some (nd [115, 116, 97, 114] s [], r3)
    else match R.expr ts with
      | none => none
      | some (e, r) => match aliasF r with
        | none => none
        | some (a, r2) => some (nd [105, 116, 101, 109] a [e], r2)
def setLk (of : List (List UInt8)) : Lk := fun ts => match oneF 0 of ts with
  | none => none
  | some (op, r) => some ((op, if tkB [[97, 108, 108]] r then 1 else 0), tkR [[97, 108, 108]] r)
def jdF (ts : List Tok) : Option (Tr × List Tok) :=
  if opnB ts then match parF R.body ts with
    | none => none
    | some (b, r) => match nameF (tkR [[97, 115]] r) with
      | none => none
      | some (s, r2) => some (nd [100, 101, 114, 105, 118, 101, 100] s [b], r2)
  else if sdB 0 3 [40] ts then parF R.tab ts
  else match nameF ts with
    | none => none
    | some (s, r) => match aliasF r with
      | none => none
      | some (a, r2) => some (nd [116, 97, 98, 108, 101] s [nd [97, 115] (if a == [] then s else a) []], r2)
def jnF (ts : List Tok) : Option (Option (List UInt8) × List Tok) :=
  if tkB [[99, 114, 111, 115, 115], [106, 111, 105, 110]] ts then some (some [99, 114, 111, 115, 115], tkR [[99, 114, 111, 115, 115], [106, 111, 105, 110]] ts)
  else if tkB [[106, 111, 105, 110]] ts then some (some [105, 110, 110, 101, 114], tkR [[106, 111, 105, 110]] ts)
  else if tkB [[105, 110, 110, 101, 114], [106, 111, 105, 110]] ts then some (some [105, 110, 110, 101, 114], tkR [[105, 110, 110, 101, 114], [106, 111, 105, 110]] ts)
  else match oneF 0 [[108, 101, 102, 116], [114, 105, 103, 104, 116], [102, 117, 108, 108]] ts with
    | none => some (none, ts)
    | some (s, r) => match needF [[106, 111, 105, 110]] (tkR [[111, 117, 116, 101, 114]] r) with
      | none => none
      | some r2 => some (some s, r2)
def tbN : Nat → Tr → List Tok → Option (Tr × List Tok)
  | 0, _, _ => none
  | n + 1, a, ts => match jnF ts with
    | none => none
    | some (none, r) => some (a, r)
    | some (some op, r) => match jdF R r with
      | none => none
      | some (x, r2) => if op == [99, 114, 111, 115, 115] then tbN n (nd op [] [a, x]) r2
        else match needF [[111, 110]] r2 with
          | none => none
          | some r3 => match R.expr r3 with
            | none => none
            | some (e, r4) => tbN n (nd op [] [a, x, e]) r4
def tabF (ts : List Tok) : Option (Tr × List Tok) := match jdF R ts with
  | none => none
  | some (x, r) => tbN R (r.length + 1) x r
def groupF (ts : List Tok) : Option (Tr × List Tok) :=
  if tkB [[103, 114, 111, 117, 112], [98, 121]] ts then match lsF colF (tkR [[103, 114, 111, 117, 112], [98, 121]] ts) with
    | none => none
    | some (l, r) => some (nd [103, 114, 111, 117, 112] [] l, r)
  else some (nd [103, 114, 111, 117, 112] [] [], ts)
def selF (ts : List Tok) : Option (Tr × List Tok) := match lsF (itmF R) (distF ts).2 with
  | none => none
  | some (items, r) => match needF [[102, 114, 111, 109]] r with
    | none => none
    | some r2 => match lsF (tabF R) r2 with
      | none => none
      | some (from_, r3) => match clsF R [119, 104, 101, 114, 101] r3 with
        | none => none
        | some (wh, r4) => match groupF r4 with
          | none => none
          | some (g, r5) => match clsF R [104, 97, 118, 105, 110, 103] r5 with
            | none => none
            | some (h, r6) => some (.mk [115, 101, 108, 101, 99, 116] [] (distF ts).1 [nd [105, 116, 101, 109, 115] [] items, nd [102, 114, 111, 109] [] from_, wh, g, h], r6)
def simF (ts : List Tok) : Option (Tr × List Tok) :=
  if sdB 0 3 [40] ts then parF R.body ts
  else match needF [[115, 101, 108, 101, 99, 116]] ts with
    | none => none
    | some r => selF R r
def trmF (ts : List Tok) : Option (Tr × List Tok) := chF (simF R) (setLk [[105, 110, 116, 101, 114, 115, 101, 99, 116]]) ts
def bodF (ts : List Tok) : Option (Tr × List Tok) := chF (trmF R) (setLk [[117, 110, 105, 111, 110], [101, 120, 99, 101, 112, 116]]) ts
def recs : Nat → Rc
  | 0 => ⟨fun _ => none, fun _ => none, fun _ => none, fun _ => none, fun _ => none⟩
  | n + 1 => ⟨exprF (recs n), bodF (recs n), negF (recs n), facF (recs n), tabF (recs n)⟩
def kbyF (ts : List Tok) : Option (Tr × List Tok) := if atnB ts then colF ts else match numF ts with
  | none => none
  | some (n, r) => some (.mk [110, 117, 109] [] n [], r)
def keyF (ts : List Tok) : Option (Tr × List Tok) := match kbyF ts with
  | none => none
  | some (b, r) => if tkB [[100, 101, 115, 99]] r then some (nd [107, 101, 121] [100, 101, 115, 99] [b], tkR [[100, 101, 115, 99]] r) else some (nd [107, 101, 121] [97, 115, 99] [b], tkR [[97, 115, 99]] r)
def qryF (ts : List Tok) : Option (Tr × List Tok) := match R.body ts with
  | none => none
  | some (b, r) => if tkB [[111, 114, 100, 101, 114], [98, 121]] r then match lsF keyF (tkR [[111, 114, 100, 101, 114], [98, 121]] r) with
      | none => none
      | some (l, r2) => some (nd [113, 117, 101, 114, 121] [] [b, nd [111, 114, 100, 101, 114] [] l], r2)
    else some (nd [113, 117, 101, 114, 121] [] [b, nd [111, 114, 100, 101, 114] [] []], r)
def chkF (ts : List Tok) : Option (Tr × List Tok) := match parF R.expr ts with
  | none => none
  | some (e, r) => some (nd [99, 104, 101, 99, 107] [] [e], r)
def optF (ts : List Tok) : Option (Option Tr × List Tok) :=
  if tkB [[110, 111, 116], [110, 117, 108, 108]] ts then some (some (nd [110, 111, 116, 110, 117, 108, 108] [] []), tkR [[110, 111, 116], [110, 117, 108, 108]] ts)
  else if tkB [[112, 114, 105, 109, 97, 114, 121], [107, 101, 121]] ts then some (some (nd [112, 114, 105, 109, 97, 114, 121] [] []), tkR [[112, 114, 105, 109, 97, 114, 121], [107, 101, 121]] ts)
  else if tkB [[117, 110, 105, 113, 117, 101]] ts then some (some (nd [117, 110, 105, 113, 117, 101] [] []), tkR [[117, 110, 105, 113, 117, 101]] ts)
  else if tkB [[99, 104, 101, 99, 107]] ts then match chkF R (tkR [[99, 104, 101, 99, 107]] ts) with
    | none => none
    | some (t, r) => some (some t, r)
  else if tkB [[114, 101, 102, 101, 114, 101, 110, 99, 101, 115]] ts then match nameF (tkR [[114, 101, 102, 101, 114, 101, 110, 99, 101, 115]] ts) with
    | none => none
    | some (s, r) => some (some (nd [114, 101, 102, 101, 114, 101, 110, 99, 101, 115] s []), r)
  else some (none, ts)
def opN : Nat → List Tr → List Tok → Option (List Tr × List Tok)
  | 0, _, _ => none
  | n + 1, a, ts => match optF R ts with
    | none => none
    | some (none, r) => some (a, r)
    | some (some t, r) => opN n (a ++ [t]) r
def cofF (ts : List Tok) : Option (Tr × List Tok) := match nameF ts with
  | none => none
  | some (s, r) => match typF r with
    | none => none
    | some (t, r2) => match opN R (r2.length + 1) [t] r2 with
      | none => none
      | some (l, r3) => some (nd [99, 111, 108, 117, 109, 110] s l, r3)
def eleF (ts : List Tok) : Option (Tr × List Tok) :=
  if tkB [[112, 114, 105, 109, 97, 114, 121], [107, 101, 121]] ts then match namesF (tkR [[112, 114, 105, 109, 97, 114, 121], [107, 101, 121]] ts) with
    | none => none
    | some (l, r) => some (nd [112, 114, 105, 109, 97, 114, 121] [] l, r)
  else if tkB [[117, 110, 105, 113, 117, 101]] ts then match namesF (tkR [[117, 110, 105, 113, 117, 101]] ts) with
    | none => none
    | some (l, r) => some (nd [117, 110, 105, 113, 117, 101] [] l, r)
  else if tkB [[99, 104, 101, 99, 107]] ts then chkF R (tkR [[99, 104, 101, 99, 107]] ts)
  else if tkB [[102, 111, 114, 101, 105, 103, 110], [107, 101, 121]] ts then match namesF (tkR [[102, 111, 114, 101, 105, 103, 110], [107, 101, 121]] ts) with
    | none => none
    | some (l, r) => match needF [[114, 101, 102, 101, 114, 101, 110, 99, 101, 115]] r with
      | none => none
      | some r2 => match nameF r2 with
        | none => none
        | some (s, r3) => some (nd [102, 111, 114, 101, 105, 103, 110] s l, r3)
  else cofF R ts
def cixF (u : Int) (ts : List Tok) : Option (Tr × List Tok) := match nameF ts with
  | none => none
  | some (s, r) => match needF [[111, 110]] r with
    | none => none
    | some r2 => match nameF r2 with
      | none => none
      | some (t, r3) => match namesF r3 with
        | none => none
        | some (l, r4) => some (.mk [99, 114, 101, 97, 116, 101, 32, 105, 110, 100, 101, 120] s u (nd [111, 110] t [] :: l), r4)
def rowF (ts : List Tok) : Option (Tr × List Tok) := match parF (lsF R.expr) ts with
  | none => none
  | some (l, r) => some (nd [114, 111, 119] [] l, r)
def insEndF (s : List UInt8) (c : Tr) (ts : List Tok) : Option (Tr × List Tok) :=
  if tkB [[118, 97, 108, 117, 101, 115]] ts then match lsF (rowF R) (tkR [[118, 97, 108, 117, 101, 115]] ts) with
    | none => none
    | some (l, r) => some (nd [105, 110, 115, 101, 114, 116] s [c, nd [118, 97, 108, 117, 101, 115] [] l], r)
  else match R.body ts with
    | none => none
    | some (b, r) => some (nd [105, 110, 115, 101, 114, 116] s [c, b], r)
def insF (ts : List Tok) : Option (Tr × List Tok) := match nameF ts with
  | none => none
  | some (s, r) => if sdB 0 3 [40] r && !opnB r then match namesF r with
      | none => none
      | some (l, r2) => insEndF R s (nd [99, 111, 108, 117, 109, 110, 115] [] l) r2
    else insEndF R s (nd [99, 111, 108, 117, 109, 110, 115] [] []) r
def setF (ts : List Tok) : Option (Tr × List Tok) := match nameF ts with
  | none => none
  | some (s, r) => match sgF [61] r with
    | none => none
    | some (_, r2) => match R.expr r2 with
      | none => none
      | some (e, r3) => some (nd [115, 101, 116] s [e], r3)
def whoF (ts : List Tok) : Option (Tr × List Tok) :=
  if tkB [[119, 104, 101, 114, 101], [99, 117, 114, 114, 101, 110, 116], [111, 102]] ts then match nameF (tkR [[119, 104, 101, 114, 101], [99, 117, 114, 114, 101, 110, 116], [111, 102]] ts) with
    | none => none
    | some (s, r) => some (nd [99, 117, 114, 114, 101, 110, 116] s [], r)
  else clsF R [119, 104, 101, 114, 101] ts
def updF (ts : List Tok) : Option (Tr × List Tok) := match nameF ts with
  | none => none
  | some (s, r) => match needF [[115, 101, 116]] r with
    | none => none
    | some r2 => match lsF (setF R) r2 with
      | none => none
      | some (l, r3) => match whoF R r3 with
        | none => none
        | some (w, r4) => some (nd [117, 112, 100, 97, 116, 101] s (l ++ [w]), r4)
def purF (ts : List Tok) : Tr × List Tok :=
  if tkB [[102, 111, 114], [114, 101, 97, 100], [111, 110, 108, 121]] ts then (nd [102, 111, 114] [114, 101, 97, 100, 32, 111, 110, 108, 121] [], tkR [[102, 111, 114], [114, 101, 97, 100], [111, 110, 108, 121]] ts)
  else if tkB [[102, 111, 114], [117, 112, 100, 97, 116, 101]] ts then (nd [102, 111, 114] [117, 112, 100, 97, 116, 101] [], tkR [[102, 111, 114], [117, 112, 100, 97, 116, 101]] ts)
  else (nd [102, 111, 114] [] [], ts)
def decF (ts : List Tok) : Option (Tr × List Tok) := match nameF ts with
  | none => none
  | some (s, r) => match needF [[99, 117, 114, 115, 111, 114], [102, 111, 114]] (tkR [[115, 99, 114, 111, 108, 108]] r) with
    | none => none
    | some r2 => match qryF R r2 with
      | none => none
      | some (q, r3) => some (.mk [100, 101, 99, 108, 97, 114, 101] s (if tkB [[115, 99, 114, 111, 108, 108]] r then 1 else 0) [q, (purF r3).1], (purF r3).2)
def sgnF (ts : List Tok) : Option (Int × List Tok) := match sgF [45] ts with
  | some (_, r) => (match numF r with
    | none => none
    | some (n, r2) => some (-n, r2))
  | none => numF ts
def wayF (ts : List Tok) : Option (Tr × List Tok) := match oneF 0 [[110, 101, 120, 116], [112, 114, 105, 111, 114], [102, 105, 114, 115, 116], [108, 97, 115, 116]] ts with
  | some (op, r) => some (nd op [] [], r)
  | none => match oneF 0 [[97, 98, 115, 111, 108, 117, 116, 101], [114, 101, 108, 97, 116, 105, 118, 101]] ts with
    | some (op, r) => (match sgnF r with
      | none => none
      | some (n, r2) => some (.mk op [] n [], r2))
    | none => some (nd [110, 101, 120, 116] [] [], ts)
def fetF (ts : List Tok) : Option (Tr × List Tok) := match wayF ts with
  | none => none
  | some (w, r) => match nameF (tkR [[102, 114, 111, 109]] r) with
    | none => none
    | some (s, r2) => some (nd [102, 101, 116, 99, 104] s [w], r2)
def savF (op : List UInt8) (ts : List Tok) : Option (Tr × List Tok) := match nameF (tkR [[115, 97, 118, 101, 112, 111, 105, 110, 116]] ts) with
  | none => none
  | some (s, r) => some (nd op s [], r)
def lvlF (ts : List Tok) : Option (Int × List Tok) :=
  if tkB [[114, 101, 97, 100], [117, 110, 99, 111, 109, 109, 105, 116, 116, 101, 100]] ts then some (0, tkR [[114, 101, 97, 100], [117, 110, 99, 111, 109, 109, 105, 116, 116, 101, 100]] ts)
  else if tkB [[114, 101, 97, 100], [99, 111, 109, 109, 105, 116, 116, 101, 100]] ts then some (1, tkR [[114, 101, 97, 100], [99, 111, 109, 109, 105, 116, 116, 101, 100]] ts)
  else if tkB [[114, 101, 112, 101, 97, 116, 97, 98, 108, 101], [114, 101, 97, 100]] ts then some (2, tkR [[114, 101, 112, 101, 97, 116, 97, 98, 108, 101], [114, 101, 97, 100]] ts)
  else match needF [[115, 101, 114, 105, 97, 108, 105, 122, 97, 98, 108, 101]] ts with
    | none => none
    | some r => some (3, r)
def nmdF (op : List UInt8) (ts : List Tok) : Option (Tr × List Tok) := match nameF ts with
  | none => none
  | some (s, r) => some (nd op s [], r)
def eoqF (ts : List Tok) : Option (Tr × List Tok) :=
  if tkB [[99, 111, 109, 109, 105, 116]] ts then some (nd [99, 111, 109, 109, 105, 116] [] [], tkR [[99, 111, 109, 109, 105, 116]] ts)
  else if tkB [[114, 111, 108, 108, 98, 97, 99, 107], [116, 111]] ts then savF [114, 111, 108, 108, 98, 97, 99, 107, 32, 116, 111] (tkR [[114, 111, 108, 108, 98, 97, 99, 107], [116, 111]] ts)
  else if tkB [[114, 111, 108, 108, 98, 97, 99, 107]] ts then some (nd [114, 111, 108, 108, 98, 97, 99, 107] [] [], tkR [[114, 111, 108, 108, 98, 97, 99, 107]] ts)
  else if tkB [[115, 97, 118, 101, 112, 111, 105, 110, 116]] ts then nmdF [115, 97, 118, 101, 112, 111, 105, 110, 116] (tkR [[115, 97, 118, 101, 112, 111, 105, 110, 116]] ts)
  else if tkB [[114, 101, 108, 101, 97, 115, 101]] ts then savF [114, 101, 108, 101, 97, 115, 101] (tkR [[114, 101, 108, 101, 97, 115, 101]] ts)
  else if tkB [[115, 101, 116], [116, 114, 97, 110, 115, 97, 99, 116, 105, 111, 110], [105, 115, 111, 108, 97, 116, 105, 111, 110], [108, 101, 118, 101, 108]] ts then match lvlF (tkR [[115, 101, 116], [116, 114, 97, 110, 115, 97, 99, 116, 105, 111, 110], [105, 115, 111, 108, 97, 116, 105, 111, 110], [108, 101, 118, 101, 108]] ts) with
    | none => none
    | some (n, r) => some (.mk [105, 115, 111, 108, 97, 116, 105, 111, 110] [] n [], r)
  else qryF R ts
def crtF (ts : List Tok) : Option (Tr × List Tok) := match nameF ts with
  | none => none
  | some (s, r) => match parF (lsF (eleF R)) r with
    | none => none
    | some (l, r2) => some (nd [99, 114, 101, 97, 116, 101, 32, 116, 97, 98, 108, 101] s l, r2)
def delF (ts : List Tok) : Option (Tr × List Tok) := match nameF ts with
  | none => none
  | some (s, r) => match whoF R r with
    | none => none
    | some (w, r2) => some (nd [100, 101, 108, 101, 116, 101] s [w], r2)
def sttF (ts : List Tok) : Option (Tr × List Tok) :=
  if tkB [[99, 114, 101, 97, 116, 101], [116, 97, 98, 108, 101]] ts then crtF R (tkR [[99, 114, 101, 97, 116, 101], [116, 97, 98, 108, 101]] ts)
  else if tkB [[99, 114, 101, 97, 116, 101], [117, 110, 105, 113, 117, 101], [105, 110, 100, 101, 120]] ts then cixF 1 (tkR [[99, 114, 101, 97, 116, 101], [117, 110, 105, 113, 117, 101], [105, 110, 100, 101, 120]] ts)
  else if tkB [[99, 114, 101, 97, 116, 101], [105, 110, 100, 101, 120]] ts then cixF 0 (tkR [[99, 114, 101, 97, 116, 101], [105, 110, 100, 101, 120]] ts)
  else if tkB [[100, 114, 111, 112], [116, 97, 98, 108, 101]] ts then nmdF [100, 114, 111, 112, 32, 116, 97, 98, 108, 101] (tkR [[100, 114, 111, 112], [116, 97, 98, 108, 101]] ts)
  else if tkB [[100, 114, 111, 112], [105, 110, 100, 101, 120]] ts then nmdF [100, 114, 111, 112, 32, 105, 110, 100, 101, 120] (tkR [[100, 114, 111, 112], [105, 110, 100, 101, 120]] ts)
  else if tkB [[105, 110, 115, 101, 114, 116], [105, 110, 116, 111]] ts then insF R (tkR [[105, 110, 115, 101, 114, 116], [105, 110, 116, 111]] ts)
  else if tkB [[117, 112, 100, 97, 116, 101]] ts then updF R (tkR [[117, 112, 100, 97, 116, 101]] ts)
  else if tkB [[100, 101, 108, 101, 116, 101], [102, 114, 111, 109]] ts then delF R (tkR [[100, 101, 108, 101, 116, 101], [102, 114, 111, 109]] ts)
  else if tkB [[100, 101, 99, 108, 97, 114, 101]] ts then decF R (tkR [[100, 101, 99, 108, 97, 114, 101]] ts)
  else if tkB [[111, 112, 101, 110]] ts then nmdF [111, 112, 101, 110] (tkR [[111, 112, 101, 110]] ts)
  else if tkB [[99, 108, 111, 115, 101]] ts then nmdF [99, 108, 111, 115, 101] (tkR [[99, 108, 111, 115, 101]] ts)
  else if tkB [[102, 101, 116, 99, 104]] ts then fetF (tkR [[102, 101, 116, 99, 104]] ts)
  else eoqF R ts
def whlF (ts : List Tok) : Option Tr := match sttF R ts with
  | none => none
  | some (t, r) => if (match sgF [59] r with | none => r | some (_, r2) => r2) = [] then some t else none
mutual
def Tr.wd : Tr → Int
  | .mk _ _ _ L => IntKind.i64.wrap (1 + wdL L)
def wdL : List Tr → Int
  | [] => 0
  | t :: L => max t.wd (wdL L)
end
def prF (s : List UInt8) : Except Nat Tr := match scF s with
  | .error e => .error e
  | .ok l => match whlF (recs (l.length + 2)) l with
    | none => .error 1
    | some t => if 24 < t.wd then .error 5 else .ok t
end Go.Proofs.YtaenpacfbheppaaGreatDoor

namespace Go.Proofs.YtaenpacfbheppaaGreatDoor

def Len {α : Type} (F : Ps α) : Prop := ∀ ts x r, F ts = some (x, r) → r.length ≤ ts.length
theorem tkR_len (ws : List (List UInt8)) (ts : List Tok) : (tkR ws ts).length ≤ ts.length := by
  unfold tkR; split <;> simp
theorem tkB_len : ∀ (ws : List (List UInt8)) (ts : List Tok), tkB ws ts = true → ws.length ≤ ts.length
  | [], _, _ => by simp
  | _ :: _, [], h => by simp [tkB] at h
  | w :: ws, t :: ts, h => by
    simp only [tkB, Bool.and_eq_true] at h
    have := tkB_len ws ts h.2
    simp only [List.length_cons]; omega
theorem tkR_lt {ws : List (List UInt8)} {ts : List Tok} (h : tkB ws ts = true) : (tkR ws ts).length + ws.length = ts.length := by
  have := tkB_len ws ts h
  unfold tkR; rw [if_pos h, List.length_drop]; omega
theorem tkR_ls {ws : List (List UInt8)} {ts : List Tok} (h : tkB ws ts = true) (hw : 0 < ws.length) : (tkR ws ts).length < ts.length := by
  have := tkR_lt h; omega
theorem tkR_no {ws : List (List UInt8)} {ts : List Tok} (h : tkB ws ts = false) : tkR ws ts = ts := by
  unfold tkR; rw [h]; rfl
theorem needF_len {ws : List (List UInt8)} {ts r : List Tok} (h : needF ws ts = some r) : r.length + ws.length = ts.length := by
  unfold needF at h
  split at h
  · rename_i hb
    cases h; exact tkR_lt hb
  · cases h
theorem oneF_len {kd : Int} {of : List (List UInt8)} {ts r : List Tok} {x : List UInt8} (h : oneF kd of ts = some (x, r)) : r.length + 1 = ts.length := by
  unfold oneF at h
  split at h
  · cases h
  · split at h
    · cases h; simp
    · cases h
theorem sgF_len {s : List UInt8} {ts r : List Tok} {x : List UInt8} (h : sgF s ts = some (x, r)) : r.length + 1 = ts.length := oneF_len h
theorem takF_len {kd : Int} {ts r : List Tok} {x : Tok} (h : takF kd ts = some (x, r)) : r.length + 1 = ts.length := by
  unfold takF at h
  split at h
  · cases h
  · split at h
    · cases h; simp
    · cases h
theorem numF_len {ts r : List Tok} {x : Int} (h : numF ts = some (x, r)) : r.length + 1 = ts.length := by
  unfold numF at h
  split at h
  · cases h
  · rename_i h1; cases h; exact takF_len h1
theorem nameF_len {ts r : List Tok} {x : List UInt8} (h : nameF ts = some (x, r)) : r.length + 1 = ts.length := by
  unfold nameF at h
  split at h
  · cases h
  · rename_i h1
    split at h
    · cases h
    · cases h; exact takF_len h1
theorem colF_len {ts r : List Tok} {x : Tr} (h : colF ts = some (x, r)) : r.length ≤ ts.length := by
  grind [colF, → nameF_len, → sgF_len]
theorem aliasF_len {ts r : List Tok} {x : List UInt8} (h : aliasF ts = some (x, r)) : r.length ≤ ts.length := by
  grind [aliasF, → nameF_len, tkR_len]
theorem parF_len {α : Type} {I : Ps α} (hI : Len I) {ts r : List Tok} {x : α} (h : parF I ts = some (x, r)) : r.length + 2 ≤ ts.length := by
  unfold parF at h
  grind [→ sgF_len, Len]
theorem lsN_len {I : Ps Tr} (hI : Len I) : ∀ (n : Nat) (a : List Tr) {ts r : List Tok} {x : List Tr}, lsN I n a ts = some (x, r) → r.length ≤ ts.length
  | 0, _, _, _, _, h => by simp [lsN] at h
  | n + 1, a, ts, r, x, h => by
    have ih := fun a => @lsN_len I hI n a
    unfold lsN at h
    grind [→ sgF_len, Len]
theorem lsF_len {I : Ps Tr} (hI : Len I) {ts r : List Tok} {x : List Tr} (h : lsF I ts = some (x, r)) : r.length ≤ ts.length := by
  unfold lsF at h
  grind [→ lsN_len, Len]
def LkLen (K : Lk) : Prop := ∀ ts x r, K ts = some (x, r) → r.length + 1 ≤ ts.length
theorem chN_len {I : Ps Tr} {K : Lk} (hI : Len I) (hK : LkLen K) : ∀ (n : Nat) (a : Tr) {ts r : List Tok} {x : Tr}, chN I K n a ts = some (x, r) → r.length ≤ ts.length
  | 0, _, _, _, _, h => by simp [chN] at h
  | n + 1, a, ts, r, x, h => by
    have ih := fun a => @chN_len I K hI hK n a
    unfold chN at h
    grind [Len, LkLen]
theorem chF_len {I : Ps Tr} {K : Lk} (hI : Len I) (hK : LkLen K) {ts r : List Tok} {x : Tr} (h : chF I K ts = some (x, r)) : r.length ≤ ts.length := by
  unfold chF at h
  grind [→ chN_len, Len]
theorem sgLk_len (of : List (List UInt8)) : LkLen (sgLk of) := by
  intro ts x r h
  grind [sgLk, → oneF_len]
theorem wdLk_len (s : List UInt8) : LkLen (wdLk s) := by
  intro ts x r h
  have := @tkR_lt [s] ts
  grind [wdLk]
theorem setLk_len (of : List (List UInt8)) : LkLen (setLk of) := by
  intro ts x r h
  grind [setLk, → oneF_len, tkR_len]
theorem namF_len {ts r : List Tok} {x : Tr} (h : namF ts = some (x, r)) : r.length ≤ ts.length := by
  grind [namF, → nameF_len]
theorem namesF_len {ts r : List Tok} {x : List Tr} (h : namesF ts = some (x, r)) : r.length ≤ ts.length := by
  have := parF_len (I := lsF namF) (fun ts x r h => lsF_len (fun ts x r h => namF_len h) h) h
  omega
theorem numF_Len : Len numF := fun ts x r h => by have := numF_len h; omega
theorem chrF_len {ts r : List Tok} {x : Tr} (h : typF.chrF ts = some (x, r)) : r.length ≤ ts.length := by
  have := @parF_len Int numF numF_Len
  grind [typF.chrF]
theorem typF_len {ts r : List Tok} {x : Tr} (h : typF ts = some (x, r)) : r.length ≤ ts.length := by
  have := @parF_len Int numF numF_Len
  grind [typF, → chrF_len, tkR_len, → needF_len]
structure Rc.Len (R : Rc) : Prop where
  expr : Go.Proofs.YtaenpacfbheppaaGreatDoor.Len R.expr
  body : Go.Proofs.YtaenpacfbheppaaGreatDoor.Len R.body
  neg : Go.Proofs.YtaenpacfbheppaaGreatDoor.Len R.neg
  fac : Go.Proofs.YtaenpacfbheppaaGreatDoor.Len R.fac
  tab : Go.Proofs.YtaenpacfbheppaaGreatDoor.Len R.tab
variable {R : Rc} (hR : R.Len)
include hR
theorem castF_Len : Len (castF R) := fun ts x r h => by
  have := hR.expr
  grind [castF, Len, → needF_len, → typF_len]
theorem nullifF_Len : Len (nullifF R) := fun ts x r h => by
  have := hR.expr
  grind [nullifF, Len, → sgF_len]
omit hR in
theorem distF_len (ts : List Tok) : (distF ts).2.length ≤ ts.length := by grind [distF, tkR_len]
theorem totF_Len (op : List UInt8) : Len (totF R op) := fun ts x r h => by
  have := hR.expr
  have := distF_len ts
  grind [totF, totE, Len, → sgF_len]
theorem whenF_Len (of : Option Tr) : Len (whenF R of) := fun ts x r h => by
  have := hR.expr
  unfold whenF at h
  (repeat' split at h)
  all_goals first | (cases h; done) | grind [Len, → needF_len]
theorem whN_len (of : Option Tr) : ∀ (n : Nat) (a : List Tr) {ts r : List Tok} {x : List Tr}, whN R of n a ts = some (x, r) → r.length ≤ ts.length
  | 0, _, _, _, _, h => by simp [whN] at h
  | n + 1, a, ts, r, x, h => by
    have ih := fun a => @whN_len of n a
    have := whenF_Len hR of
    unfold whN at h
    grind [Len]
omit hR in
theorem caseEndF_len {a : List Tr} {last : Tr} {ts r : List Tok} {x : Tr} (h : caseEndF a last ts = some (x, r)) : r.length ≤ ts.length := by
  grind [caseEndF, → needF_len]
theorem caseWhF_Len (of : Option Tr) : Len (caseWhF R of) := fun ts x r h => by
  have := hR.expr
  have := whenF_Len hR of
  have := @whN_len R hR of
  grind [caseWhF, Len, tkR_len, → caseEndF_len]
theorem caseF_Len : Len (caseF R) := fun ts x r h => by
  have := hR.expr
  have := caseWhF_Len hR
  grind [caseF, Len]
theorem wopF_Len : Len (wopF R) := fun ts x r h => by
  have h1 := @parF_len Tr R.body hR.body
  have h2 := @parF_len Tr (castF R) (castF_Len hR)
  have h3 := @parF_len Tr (nullifF R) (nullifF_Len hR)
  have h4 := fun op => @parF_len Tr (totF R op) (totF_Len hR op)
  have h5 := @parF_len (List Tr) (lsF R.expr) (fun ts x r h => lsF_len hR.expr h)
  have h6 := caseF_Len hR
  grind [wopF, Len, tkR_len, → oneF_len, → colF_len]
theorem oprF_Len : Len (oprF R) := fun ts x r h => by
  have h1 := @parF_len Tr R.body hR.body
  have h2 := @parF_len Tr R.expr hR.expr
  have h3 := wopF_Len hR
  unfold oprF at h
  (repeat' split at h)
  all_goals first | (cases h; done) | grind [Len, → needF_len]
theorem facF_Len : Len (facF R) := fun ts x r h => by
  have h1 := hR.fac
  have h3 := oprF_Len hR
  grind [facF, Len, → sgF_len]
theorem proF_Len : Len (proF R) := fun ts x r h => chF_len (facF_Len hR) (sgLk_len _) h
theorem sumF_Len : Len (sumF R) := fun ts x r h => chF_len (proF_Len hR) (sgLk_len _) h
theorem anyF_Len (s : Tr) (sg op : List UInt8) : Len (cmpF.anyF R s sg op) := fun ts x r h => by
  have h1 := @parF_len Tr R.body hR.body
  grind [cmpF.anyF]
theorem cmpF_Len (s : Tr) (sg : List UInt8) : Len (cmpF R s sg) := fun ts x r h => by
  have h1 := anyF_Len hR s sg
  have h2 := sumF_Len hR
  grind [cmpF, Len, tkR_len]
omit hR in
theorem istF_len {s : Tr} {ts r : List Tok} {x : Tr} (h : istF s ts = some (x, r)) : r.length ≤ ts.length := by
  grind [istF, → oneF_len]
theorem wtF_Len (s : Tr) : Len (wtF R s) := fun ts x r h => by
  have h1 := @parF_len Tr R.body hR.body
  have h5 := @parF_len (List Tr) (lsF R.expr) (fun ts x r h => lsF_len hR.expr h)
  have h2 := sumF_Len hR
  grind [wtF, Len, tkR_len, → needF_len]
theorem tstF_Len : Len (tstF R) := fun ts x r h => by
  have h1 := sumF_Len hR
  have h2 := cmpF_Len hR
  have h3 := wtF_Len hR
  grind [tstF, Len, tkR_len, → oneF_len, → istF_len]
theorem negF_Len : Len (negF R) := fun ts x r h => by
  have h1 := hR.neg
  have h2 := tstF_Len hR
  grind [negF, Len, tkR_len]
theorem conF_Len : Len (conF R) := fun ts x r h => chF_len (negF_Len hR) (wdLk_len _) h
theorem exprF_Len : Len (exprF R) := fun ts x r h => chF_len (conF_Len hR) (wdLk_len _) h
theorem clsF_Len (w : List UInt8) : Len (clsF R w) := fun ts x r h => by
  have h1 := hR.expr
  grind [clsF, Len, tkR_len]
theorem itmF_Len : Len (itmF R) := fun ts x r h => by
  have h1 := hR.expr
  grind [itmF, Len, → sgF_len, → nameF_len, → aliasF_len]
theorem jdF_Len : Len (jdF R) := fun ts x r h => by
  have h1 := @parF_len Tr R.body hR.body
  have h2 := @parF_len Tr R.tab hR.tab
  grind [jdF, Len, → nameF_len, tkR_len, → aliasF_len]
omit hR in
theorem jnF_len {ts r : List Tok} {x : Option (List UInt8)} (h : jnF ts = some (x, r)) : r.length ≤ ts.length ∧ (x ≠ none → r.length + 1 ≤ ts.length) := by
  have h1 := @tkR_lt [[99, 114, 111, 115, 115], [106, 111, 105, 110]] ts
  have h2 := @tkR_lt [[106, 111, 105, 110]] ts
  have h3 := @tkR_lt [[105, 110, 110, 101, 114], [106, 111, 105, 110]] ts
  grind [jnF, → oneF_len, → needF_len, tkR_len]
theorem tbN_len : ∀ (n : Nat) (a : Tr) {ts r : List Tok} {x : Tr}, tbN R n a ts = some (x, r) → r.length ≤ ts.length
  | 0, _, _, _, _, h => by simp [tbN] at h
  | n + 1, a, ts, r, x, h => by
    have ih := fun a => @tbN_len n a
    have h1 := jdF_Len hR
    have h2 := hR.expr
    have h3 := @jnF_len ts
    unfold tbN at h
    (repeat' split at h)
    all_goals first | (cases h; done) | grind [Len, → needF_len]
theorem tabF_Len : Len (tabF R) := fun ts x r h => by
  have h1 := jdF_Len hR
  have h2 := @tbN_len R hR
  grind [tabF, Len]
omit hR in
theorem groupF_len {ts r : List Tok} {x : Tr} (h : groupF ts = some (x, r)) : r.length ≤ ts.length := by
  have h1 := @lsF_len colF (fun ts x r h => colF_len h)
  grind [groupF, tkR_len]
theorem selF_Len : Len (selF R) := fun ts x r h => by
  have h1 := @lsF_len (itmF R) (itmF_Len hR)
  have h2 := @lsF_len (tabF R) (tabF_Len hR)
  have h3 := clsF_Len hR
  have h4 := distF_len ts
  unfold selF at h
  (repeat' split at h)
  all_goals first | (cases h; done) | grind [Len, → needF_len, → groupF_len]
theorem simF_Len : Len (simF R) := fun ts x r h => by
  have h1 := @parF_len Tr R.body hR.body
  have h2 := selF_Len hR
  grind [simF, Len, → needF_len]
theorem trmF_Len : Len (trmF R) := fun ts x r h => chF_len (simF_Len hR) (setLk_len _) h
theorem bodF_Len : Len (bodF R) := fun ts x r h => chF_len (trmF_Len hR) (setLk_len _) h
omit hR in
theorem recs_Len : ∀ n, (recs n).Len
  | 0 => ⟨fun _ _ _ h => by simp [recs] at h, fun _ _ _ h => by simp [recs] at h, fun _ _ _ h => by simp [recs] at h, fun _ _ _ h => by simp [recs] at h, fun _ _ _ h => by simp [recs] at h⟩
  | n + 1 => ⟨exprF_Len (recs_Len n), bodF_Len (recs_Len n), negF_Len (recs_Len n), facF_Len (recs_Len n), tabF_Len (recs_Len n)⟩
omit hR in
theorem kbyF_len {ts r : List Tok} {x : Tr} (h : kbyF ts = some (x, r)) : r.length ≤ ts.length := by
  grind [kbyF, → colF_len, → numF_len]
omit hR in
theorem keyF_len {ts r : List Tok} {x : Tr} (h : keyF ts = some (x, r)) : r.length ≤ ts.length := by
  grind [keyF, → kbyF_len, tkR_len]
theorem qryF_Len : Len (qryF R) := fun ts x r h => by
  have h1 := @lsF_len keyF (fun ts x r h => keyF_len h)
  have h2 := hR.body
  grind [qryF, Len, tkR_len]
theorem chkF_Len : Len (chkF R) := fun ts x r h => by
  have h2 := @parF_len Tr R.expr hR.expr
  grind [chkF]
theorem optF_len {ts r : List Tok} {x : Option Tr} (h : optF R ts = some (x, r)) : r.length ≤ ts.length ∧ (x ≠ none → r.length + 1 ≤ ts.length) := by
  have h1 := @tkR_lt [[110, 111, 116], [110, 117, 108, 108]] ts
  have h2 := @tkR_lt [[112, 114, 105, 109, 97, 114, 121], [107, 101, 121]] ts
  have h3 := @tkR_lt [[117, 110, 105, 113, 117, 101]] ts
  have h4 := @tkR_lt [[99, 104, 101, 99, 107]] ts
  have h5 := @tkR_lt [[114, 101, 102, 101, 114, 101, 110, 99, 101, 115]] ts
  have h6 := chkF_Len hR
  grind [optF, Len, → nameF_len]
theorem opN_len : ∀ (n : Nat) (a : List Tr) {ts r : List Tok} {x : List Tr}, opN R n a ts = some (x, r) → r.length ≤ ts.length
  | 0, _, _, _, _, h => by simp [opN] at h
  | n + 1, a, ts, r, x, h => by
    have ih := fun a => @opN_len n a
    have h1 := @optF_len R hR
    unfold opN at h
    grind
theorem cofF_Len : Len (cofF R) := fun ts x r h => by
  have h1 := @opN_len R hR
  grind [cofF, → nameF_len, → typF_len]
theorem eleF_Len : Len (eleF R) := fun ts x r h => by
  have h1 := chkF_Len hR
  have h2 := cofF_Len hR
  grind [eleF, Len, → namesF_len, → nameF_len, → needF_len, tkR_len]
theorem rowF_Len : Len (rowF R) := fun ts x r h => by
  have h5 := @parF_len (List Tr) (lsF R.expr) (fun ts x r h => lsF_len hR.expr h)
  grind [rowF]
theorem setF_Len : Len (setF R) := fun ts x r h => by
  have h1 := hR.expr
  grind [setF, Len, → nameF_len, → sgF_len]
theorem whoF_Len : Len (whoF R) := fun ts x r h => by
  have h1 := clsF_Len hR
  grind [whoF, Len, → nameF_len, tkR_len]
omit hR in
theorem sgnF_len {ts r : List Tok} {x : Int} (h : sgnF ts = some (x, r)) : r.length ≤ ts.length := by
  grind [sgnF, → sgF_len, → numF_len]
omit hR in
theorem wayF_len {ts r : List Tok} {x : Tr} (h : wayF ts = some (x, r)) : r.length ≤ ts.length := by
  grind [wayF, → oneF_len, → sgnF_len]
end Go.Proofs.YtaenpacfbheppaaGreatDoor

namespace Go.Proofs.YtaenpacfbheppaaGreatDoor
open Go.RowKit

def ncs (ao : Option Addr) (cap : Nat) (t : Tr) : List Value := [.string ⟨t.op.toArray⟩, .string ⟨t.s.toArray⟩, .int .i64 t.n, .slice ao t.L.length cap]
abbrev nv (op s : List UInt8) (n : Int) (ao : Option Addr) (len cap : Nat) : Value := .agg #[.string ⟨op.toArray⟩, .string ⟨s.toArray⟩, .int .i64 n, .slice ao len cap]
abbrev Kid := Option Addr × Nat
inductive TV (P : Nat → Prop) (w : World) : Option Addr → Nat → Tr → Prop
  | leaf (op s : List UInt8) (n : Int) : TV P w none 0 (.mk op s n [])
  | row (g cap : Nat) (op s : List UInt8) (n : Int) (L : List Tr) (kids : List Kid) (hP : P g) (hlt : g < w.heap.size ∧ ∃ ca ta, w.heap[g]? = some (.cells ca ta (0, 0))) (h0 : 0 < L.length) (hcap : L.length ≤ cap ∧ cap ≤ maxLen) (hl : kids.length = L.length)
      (cells : ∀ i (h : i < L.length), w.rangeAt g (i * 4) (ncs (kids[i]'(hl ▸ h)).1 (kids[i]'(hl ▸ h)).2 L[i]))
      (sub : ∀ i (h : i < L.length), TV P w (kids[i]'(hl ▸ h)).1 (kids[i]'(hl ▸ h)).2 L[i]) : TV P w (some ⟨g, 0, none⟩) cap (.mk op s n L)
theorem rangeAt_of_heap {w w' : World} {g o : Nat} {cs : List Value} (h : w.rangeAt g o cs) (hh : w'.heap[g]? = w.heap[g]?) : w'.rangeAt g o cs := fun j v hv => by
  rw [World.cell?_of_block hh]; exact h j v hv
theorem TV.keep {P Q : Nat → Prop} {w w' : World} {ao : Option Addr} {cap : Nat} {t : Tr} (h : TV P w ao cap t) (hq : ∀ k, P k → k < w.heap.size → Q k ∧ w'.heap[k]? = w.heap[k]?) : TV Q w' ao cap t := by
  induction h with
  | leaf op s n => exact .leaf op s n
  | row g cap op s n L kids hP hlt h0 hcap hl cells sub ih =>
    have h1 := hq g hP hlt.1
    have hlt' : g < w'.heap.size ∧ ∃ ca ta, w'.heap[g]? = some (.cells ca ta (0, 0)) := by
      obtain ⟨ca, ta, e⟩ := hlt.2
      rw [← h1.2] at e
      exact ⟨(Array.getElem?_eq_some_iff.1 e).1, ca, ta, e⟩
    exact .row g cap op s n L kids h1.1 hlt' h0 hcap hl (fun i h => rangeAt_of_heap (cells i h) h1.2) (fun i h => ih i h)
theorem TV.root {P : Nat → Prop} {w : World} {ao : Option Addr} {cap : Nat} {t : Tr} (h : TV P w ao cap t) (op s : List UInt8) (n : Int) : TV P w ao cap (.mk op s n t.L) := by
  cases h with
  | leaf => exact .leaf _ _ _
  | row g cap op s n L kids hP hlt h0 hcap hl cells sub => exact .row g cap _ _ _ L kids hP hlt h0 hcap hl cells sub
abbrev ls (l : List Tr) : Tr := .mk [] [] 0 l

structure Env where
  b : Nat
  v : Value
  l : List Tok
structure Env.Ok (E : Env) : Prop where
  own : E.v.ownBlock ≠ some E.b
  len : E.l.length ≤ 600
  num : ∀ t ∈ E.l, 0 ≤ t.n ∧ t.n ≤ 9223372036854775807
inductive Stt where
  | p (ts : List Tok)
  | r (o : Option (List Tok))
def Stt.At (E : Env) (w : World) : Stt → Prop
  | .p ts => ∃ i : Nat, i ≤ E.l.length ∧ E.l.drop i = ts ∧ w.heap[E.b]? = some (.cells #[E.v, .int .i64 i] 40 (0, 0)) ∧ TRow 0 w E.v E.l
  | .r o => ∃ (i : Nat) (bad : Bool), i ≤ E.l.length ∧ (o = if bad then none else some (E.l.drop i)) ∧ w.heap[E.b]? = some (.cells #[E.v, .int .i64 i, .bool bad] 44 (0, 0)) ∧ TRow 0 w E.v E.l
theorem Stt.At.lt {E : Env} {w : World} {s : Stt} (h : s.At E w) : E.b < w.heap.size := by
  cases s with
  | p ts => obtain ⟨i, _, _, hh, _⟩ := h; exact (Array.getElem?_eq_some_iff.1 hh).1
  | r o => obtain ⟨i, bad, _, _, hh, _⟩ := h; exact (Array.getElem?_eq_some_iff.1 hh).1
theorem Stt.At.row {E : Env} {w : World} {s : Stt} (h : s.At E w) : TRow 0 w E.v E.l := by
  cases s with
  | p ts => obtain ⟨i, _, _, hh, h⟩ := h; exact h
  | r o => obtain ⟨i, bad, _, _, hh, h⟩ := h; exact h
theorem Stt.At.keep {E : Env} {w w' : World} {s : Stt} (h : s.At E w) (hb : w'.heap[E.b]? = w.heap[E.b]?) (hv : ∀ k, E.v.ownBlock = some k → w'.heap[k]? = w.heap[k]?) : s.At E w' := by
  cases s with
  | p ts =>
    obtain ⟨i, h1, h2, h3, h4⟩ := h
    exact ⟨i, h1, h2, hb.trans h3, h4.of_block hv⟩
  | r o =>
    obtain ⟨i, bad, h1, h2, h3, h4⟩ := h
    exact ⟨i, bad, h1, h2, hb.trans h3, h4.of_block hv⟩
abbrev Bx := Nat × List Value × Nat
abbrev Tn := Option Addr × Nat × Tr
structure Cx (E : Env) (B : Nat) (w0 w : World) (s : Stt) (H : List Bx) (L : List Tn) : Prop where
  ok : E.Ok
  st : s.At E w
  mv : Fr w0 w (fun i => i = E.b)
  lo : E.b < w0.heap.size ∧ (∀ k, E.v.ownBlock = some k → k < w0.heap.size)
  bl : E.b < B
  hB : B ≤ w0.heap.size
  hl : ∀ x ∈ H, w0.heap.size ≤ x.1 ∧ w.heap[x.1]? = some (.cells x.2.1.toArray x.2.2 (0, 0))
  hn : ∀ x ∈ H, ∀ k, E.v.ownBlock = some k → k ≠ x.1
  nd : H.Pairwise (fun x y => x.1 ≠ y.1)
  tv : ∀ x ∈ L, TV (fun k => B ≤ k ∧ ∀ y ∈ H, k ≠ y.1) w x.1 x.2.1 x.2.2
theorem infoN : (Tryz.prog.info? 24).map (fun i => (i.zero, i.size, i.bytes)) = some (some (.agg #[.string ⟨#[]⟩, .string ⟨#[]⟩, .int .i64 0, .slice none 0 0]), 4, 64) := by kernel_rfl
theorem undN : (Tryz.prog.underlying 24).map TypeDesc.isRow = some true := by kernel_rfl
theorem undNs : Tryz.prog.underlying 22 = some (.slice 24) := by kernel_rfl
theorem undSs : Tryz.prog.underlying 82 = some (.slice 9) := by kernel_rfl
theorem infoS : (Tryz.prog.info? 9).map (fun i => (i.zero, i.size, i.bytes)) = some (some (.string ⟨#[]⟩), 1, 16) := by kernel_rfl
theorem Cx.alloc {E : Env} {B : Nat} {w0 w : World} {s : Stt} {H : List Bx} {L : List Tn} (h : Cx E B w0 w s H L) (cs : List Value) (T : Nat) : Cx E B w0 (w.alloc (.cells cs.toArray T)) s ((w.heap.size, cs, T) :: H) L := by
  have old : ∀ k, k < w.heap.size → (w.alloc (.cells cs.toArray T)).heap[k]? = w.heap[k]? := fun k hk => Below.heap_alloc _ _ _ hk
  have hlt : ∀ x ∈ H, x.1 < w.heap.size := fun x hx => (Array.getElem?_eq_some_iff.1 (h.hl x hx).2).1
  have hv : ∀ k, E.v.ownBlock = some k → k < w.heap.size := fun k hk => (h.st.row.lo k hk).2
  refine ⟨h.ok, h.st.keep (old _ h.st.lt) (fun k hk => old _ (hv k hk)), h.mv.trans (Fr.alloc _ _ (fun _ => False)) (fun i hi => hi.elim), h.lo, h.bl, h.hB, ?_, ?_, ?_, ?_⟩
  · intro x hx
    rcases List.mem_cons.1 hx with rfl | hx
    · exact ⟨h.mv.size, heap_alloc_new w _⟩
    · exact ⟨(h.hl x hx).1, (old _ (hlt x hx)).trans (h.hl x hx).2⟩
  · intro x hx k hk
    rcases List.mem_cons.1 hx with rfl | hx
    · have := hv k hk; show k ≠ w.heap.size; omega
    · exact h.hn x hx k hk
  · exact List.pairwise_cons.2 ⟨fun x hx => by have := hlt x hx; show w.heap.size ≠ x.1; omega, h.nd⟩
  · intro x hx
    refine (h.tv x hx).keep fun k hk hkl => ⟨⟨hk.1, fun y hy => ?_⟩, old k hkl⟩
    rcases List.mem_cons.1 hy with rfl | hy
    · show k ≠ w.heap.size; omega
    · exact hk.2 y hy
theorem set_pw {H : List Bx} (h : H.Pairwise (fun x y => x.1 ≠ y.1)) {i : Nat} {x : Bx} {y : Bx} (hi : H[i]? = some x) (he : y.1 = x.1) : (H.set i y).Pairwise (fun x y => x.1 ≠ y.1) := by
  induction H generalizing i with
  | nil => simp at hi
  | cons a H ih =>
    rw [List.pairwise_cons] at h
    cases i with
    | zero =>
      simp only [List.getElem?_cons_zero, Option.some.injEq] at hi
      subst hi
      rw [List.set_cons_zero, List.pairwise_cons, he]
      exact h
    | succ i =>
      simp only [List.getElem?_cons_succ] at hi
      rw [List.set_cons_succ, List.pairwise_cons]
      refine ⟨fun z hz => ?_, ih h.2 hi⟩
      rcases List.mem_or_eq_of_mem_set hz with hz | rfl
      · exact h.1 z hz
      · rw [he]; exact h.1 x (List.mem_of_getElem? hi)
theorem set_key {H : List Bx} {i : Nat} {x y : Bx} (hi : H[i]? = some x) (he : y.1 = x.1) : ∀ k, (∀ z ∈ H, k ≠ z.1) ↔ (∀ z ∈ H.set i y, k ≠ z.1) := by
  intro k
  induction H generalizing i with
  | nil => simp at hi
  | cons a H ih =>
    cases i with
    | zero =>
      simp only [List.getElem?_cons_zero, Option.some.injEq] at hi
      subst hi
      simp [he]
    | succ i =>
      simp only [List.getElem?_cons_succ] at hi
      have := ih hi
      simp only [List.set_cons_succ, List.forall_mem_cons, this]
def put (cs : List Value) (o : Nat) (vs : List Value) : List Value := cs.take o ++ vs ++ cs.drop (o + vs.length)
theorem setCells_block (w : World) (k : Nat) (T : Nat) : ∀ (vs : List Value) (o : Nat) (w : World) (cs : List Value), w.heap[k]? = some (.cells cs.toArray T (0, 0)) → o + vs.length ≤ cs.length → (w.setCells k o vs).heap[k]? = some (.cells (put cs o vs).toArray T (0, 0)) := by
  intro vs
  induction vs with
  | nil =>
    intro o w cs h hf
    have e : put cs o [] = cs := by unfold put; simp
    rw [e]; exact h
  | cons v vs ih =>
    intro o w cs h hf
    have h1 : (w.setCell ⟨k, o, none⟩ v).heap[k]? = some (.cells (cs.set o v).toArray T (0, 0)) := by
      rw [heap_setCell_same w k o _ _ _ h]
      simp
    simp only [List.length_cons] at hf
    have h2 := ih (o + 1) (w.setCell ⟨k, o, none⟩ v) (cs.set o v) h1 (by simp only [List.length_set]; omega)
    have e : put (cs.set o v) (o + 1) vs = put cs o (v :: vs) := by
      unfold put
      rw [List.take_set, List.drop_set_of_lt (by omega), List.take_add_one, List.set_append]
      simp only [List.length_take, List.length_cons]
      rw [Nat.min_eq_left (by omega), if_neg (by omega), Nat.sub_self, List.getElem?_eq_getElem (by omega)]
      simp only [Option.toList_some, List.set_cons_zero, List.append_assoc, List.cons_append, List.nil_append]
      rw [show o + 1 + vs.length = o + (vs.length + 1) by omega]
    rw [e] at h2
    exact h2
theorem setCells_other (k k' : Nat) (hk : k' ≠ k) : ∀ (vs : List Value) (o : Nat) (w : World), (w.setCells k o vs).heap[k']? = w.heap[k']?
  | [], _, _ => rfl
  | v :: vs, o, w => (setCells_other k k' hk vs (o + 1) _).trans (Below.heap_setCell _ _ _ _ hk)
theorem setCells_fr (k : Nat) : ∀ (vs : List Value) (o : Nat) (w : World), Fr w (w.setCells k o vs) (fun i => i = k)
  | [], _, w => Fr.refl _ _
  | v :: vs, o, w => (fr_set w k o v).trans (setCells_fr k vs (o + 1) _) (fun i hi => Or.inl hi)
theorem Cx.set {E : Env} {B : Nat} {w0 w : World} {s : Stt} {H : List Bx} {L : List Tn} (h : Cx E B w0 w s H L) (i : Nat) {k : Nat} {cs : List Value} {T : Nat} (hi : H[i]? = some (k, cs, T)) (o : Nat) (vs : List Value) (hf : o + vs.length ≤ cs.length) : Cx E B w0 (w.setCells k o vs) s (H.set i (k, put cs o vs, T)) L := by
  have hm := List.mem_of_getElem? hi
  have hb := h.hl _ hm
  have hkey := set_key (y := (k, put cs o vs, T)) hi rfl
  have hk : w0.heap.size ≤ k := hb.1
  have hne : E.b ≠ k := by have h1 := h.lo.1; omega
  refine ⟨h.ok, h.st.keep (setCells_other _ _ hne _ _ _) (fun k' hk' => setCells_other _ _ (h.hn _ hm k' hk') _ _ _), h.mv.trans (setCells_fr k vs o w) (fun j hj => Or.inr (by omega)), h.lo, h.bl, h.hB, ?_, ?_, set_pw h.nd hi rfl, ?_⟩
  · intro x hx
    obtain ⟨j, hj, e⟩ := List.mem_iff_getElem.1 hx
    rw [List.length_set] at hj
    rw [List.getElem_set] at e
    split at e
    · subst e
      exact ⟨hb.1, setCells_block w k T vs o w cs hb.2 hf⟩
    · rename_i hne2
      subst e
      refine ⟨(h.hl _ (List.getElem_mem _)).1, ?_⟩
      have hne3 : H[j].1 ≠ k := by
        have hil := (List.getElem?_eq_some_iff.1 hi).1
        have e2 := (List.getElem?_eq_some_iff.1 hi).2
        have hp := List.pairwise_iff_getElem.1 h.nd
        rcases Nat.lt_or_gt_of_ne hne2 with hlt | hgt
        · have := hp i j hil hj hlt
          rw [e2] at this
          exact fun e => this e.symm
        · have := hp j i hj hil hgt
          rw [e2] at this
          exact this
      exact (setCells_other _ _ hne3 _ _ _).trans (h.hl _ (List.getElem_mem _)).2
  · intro x hx k' hk' e
    exact (hkey k').1 (fun z hz e2 => h.hn z hz k' hk' e2) x hx e
  · intro x hx
    exact (h.tv x hx).keep fun k' hk' _ => ⟨⟨hk'.1, (hkey k').1 hk'.2⟩, setCells_other _ _ (hk'.2 _ hm) _ _ _⟩
theorem Cx.keepB {E : Env} {B : Nat} {w0 w w' : World} {s : Stt} {H : List Bx} {L : List Tn} (h : Cx E B w0 w s H L) (hb : Below w.heap.size w w') : Cx E B w0 w' s H L :=
  ⟨h.ok, h.st.keep (hb.block _ h.st.lt) (fun k hk => hb.block _ (h.st.row.lo k hk).2), h.mv.trans (Fr.of_below (F := fun _ => False) hb) (fun i hi => hi.elim), h.lo, h.bl, h.hB,
    fun x hx => ⟨(h.hl x hx).1, (hb.block _ (Array.getElem?_eq_some_iff.1 (h.hl x hx).2).1).trans (h.hl x hx).2⟩, h.hn, h.nd, fun x hx => (h.tv x hx).keep fun k hk hkl => ⟨hk, hb.block k hkl⟩⟩
theorem Cx.drew {E : Env} {B : Nat} {w0 w : World} {s : Stt} {H : List Bx} {L : List Tn} (h : Cx E B w0 w s H L) : Cx E B w0 w.drew s H L := h.keepB ⟨rfl, rfl, rfl, Nat.le_refl _, fun _ _ => rfl⟩
theorem Cx.less {E : Env} {B : Nat} {w0 w : World} {s : Stt} {H H' : List Bx} {L L' : List Tn} (h : Cx E B w0 w s H L) (hH : H'.Sublist H) (hL : ∀ x ∈ L', x ∈ L) : Cx E B w0 w s H' L' :=
  ⟨h.ok, h.st, h.mv, h.lo, h.bl, h.hB, fun x hx => h.hl x (hH.subset hx), fun x hx => h.hn x (hH.subset hx), h.nd.sublist hH, fun x hx => (h.tv x (hL x hx)).keep fun k hk _ => ⟨⟨hk.1, fun y hy => hk.2 y (hH.subset hy)⟩, rfl⟩⟩
def flatK : List Kid → List Tr → List Value
  | k :: ks, t :: l => ncs k.1 k.2 t ++ flatK ks l
  | _, _ => []
theorem flatK_len : ∀ (ks : List Kid) (l : List Tr), ks.length = l.length → (flatK ks l).length = l.length * 4
  | [], [], _ => rfl
  | [], _ :: _, h => by simp at h
  | _ :: _, [], h => by simp at h
  | k :: ks, t :: l, h => by
    simp only [List.length_cons, Nat.add_right_cancel_iff] at h
    have := flatK_len ks l h
    simp only [flatK, List.length_append, this, List.length_cons]
    show 4 + _ = _
    omega
theorem flatK_at : ∀ (ks : List Kid) (l : List Tr) (hl : ks.length = l.length) (i : Nat) (h : i < l.length) (j : Nat), j < 4 → (flatK ks l)[i * 4 + j]? = (ncs (ks[i]'(hl ▸ h)).1 (ks[i]'(hl ▸ h)).2 l[i])[j]?
  | [], [], _, i, h, _, _ => by simp at h
  | [], _ :: _, hl, _, _, _, _ => by simp at hl
  | _ :: _, [], hl, _, _, _, _ => by simp at hl
  | k :: ks, t :: l, hl, i, h, j, hj => by
    cases i with
    | zero =>
      simp only [flatK, Nat.zero_mul, Nat.zero_add, List.getElem_cons_zero]
      rw [List.getElem?_append_left (by show j < 4; omega)]
    | succ i =>
      simp only [List.length_cons, Nat.add_right_cancel_iff] at hl
      have := flatK_at ks l hl i (by simpa using h) j hj
      simp only [flatK, List.getElem_cons_succ]
      rw [List.getElem?_append_right (by show 4 ≤ _; omega), ← this]
      congr 1
      show (i + 1) * 4 + j - 4 = _
      omega
theorem Cx.tree {E : Env} {B : Nat} {w0 w : World} {s : Stt} {k T : Nat} {cs : List Value} {H : List Bx} {L : List Tn} (h : Cx E B w0 w s ((k, cs, T) :: H) L) (ks : List Kid) (l : List Tr) (hl : ks.length = l.length) (h0 : 0 < l.length) (hc : cs.take (l.length * 4) = flatK ks l) (cap : Nat) (hcap : l.length ≤ cap ∧ cap ≤ maxLen)
    (hL : ∀ i (hi : i < l.length), ((ks[i]'(hl ▸ hi)).1, (ks[i]'(hl ▸ hi)).2, l[i]) ∈ L) (op st : List UInt8) (n : Int) : Cx E B w0 w s H ((some ⟨k, 0, none⟩, cap, .mk op st n l) :: L) := by
  have hk := h.hl _ (List.mem_cons_self)
  refine ⟨h.ok, h.st, h.mv, h.lo, h.bl, h.hB, fun x hx => h.hl x (List.mem_cons_of_mem _ hx), fun x hx => h.hn x (List.mem_cons_of_mem _ hx), (List.pairwise_cons.1 h.nd).2, ?_⟩
  intro x hx
  rcases List.mem_cons.1 hx with rfl | hx
  · refine .row k cap op st n l ks ⟨Nat.le_trans h.hB hk.1, fun y hy => (List.pairwise_cons.1 h.nd).1 y hy⟩ ⟨(Array.getElem?_eq_some_iff.1 hk.2).1, _, _, hk.2⟩ h0 hcap hl (fun i hi j v hv => ?_) (fun i hi => ?_)
    · have hj : j < 4 := (List.getElem?_eq_some_iff.1 hv).1
      have e := flatK_at ks l hl i hi j hj
      rw [cell_of_row w k _ _ _ _ hk.2]
      rw [← hc, List.getElem?_take_of_lt (by omega)] at e
      simp only [List.getElem?_toArray]
      rw [e]
      exact hv
    · exact (h.tv _ (hL i hi)).keep fun k' hk' _ => ⟨⟨hk'.1, fun y hy => hk'.2 y (List.mem_cons_of_mem _ hy)⟩, rfl⟩
  · exact (h.tv _ hx).keep fun k' hk' _ => ⟨⟨hk'.1, fun y hy => hk'.2 y (List.mem_cons_of_mem _ hy)⟩, rfl⟩
theorem Cx.root {E : Env} {B : Nat} {w0 w : World} {s : Stt} {H : List Bx} {L : List Tn} (h : Cx E B w0 w s H L) {ao : Option Addr} {cap : Nat} {t : Tr} (ht : (ao, cap, t) ∈ L) (op st : List UInt8) (n : Int) : Cx E B w0 w s H ((ao, cap, .mk op st n t.L) :: L) := by
  refine ⟨h.ok, h.st, h.mv, h.lo, h.bl, h.hB, h.hl, h.hn, h.nd, ?_⟩
  intro x hx
  rcases List.mem_cons.1 hx with rfl | hx
  · exact (h.tv _ ht).root op st n
  · exact h.tv _ hx
theorem Cx.leaf {E : Env} {B : Nat} {w0 w : World} {s : Stt} {H : List Bx} {L : List Tn} (h : Cx E B w0 w s H L) (op st : List UInt8) (n : Int) : Cx E B w0 w s H ((none, 0, .mk op st n []) :: L) := by
  refine ⟨h.ok, h.st, h.mv, h.lo, h.bl, h.hB, h.hl, h.hn, h.nd, ?_⟩
  intro x hx
  rcases List.mem_cons.1 hx with rfl | hx
  · exact .leaf _ _ _
  · exact h.tv _ hx
end Go.Proofs.YtaenpacfbheppaaGreatDoor

namespace Go.Proofs.YtaenpacfbheppaaGreatDoor
open Go.RowKit

theorem st_of {P : Program} {ops : Array Oper} {o : Oper} {a : Act} {w : World} {K : Act → World → Prop} {Q : Exit → Act → World → Prop} {X : Prop} (hgd : o.guard = none) (h : o.wp P a w K Q) : if Region.wanted o (yielded ops a.tmps) = true then Oper.wp P o a w K Q else X := by
  rw [if_pos (by simp [Region.wanted, hgd])]
  exact h
theorem flat_strs : ∀ ws : List ByteArray, (List.flatMap (fun v : Value => v.cells.toList) (ws.map fun c => Value.string c)) = ws.map Value.string
  | [] => rfl
  | a :: l => by
    rw [List.map_cons, List.flatMap_cons, flat_strs l]
    rfl
theorem flat_aggs : ∀ css : List (List Value), (List.flatMap (fun v : Value => v.cells.toList) (css.map fun c => Value.agg c.toArray)) = css.flatten
  | [] => rfl
  | a :: l => by
    rw [List.map_cons, List.flatMap_cons, flat_aggs l]
    rfl
section
variable {E : Env} {B : Nat} {w0 w : World} {s : Stt} {H : List Bx} {L : List Tn}
theorem Cx.range (h : Cx E B w0 w s H L) (i : Nat) {k T : Nat} {cs : List Value} (hi : H[i]? = some (k, cs, T)) (o n : Nat) : w.rangeAt k o ((cs.drop o).take n) := by
  intro j v hv
  have hk := h.hl _ (List.mem_of_getElem? hi)
  rw [cell_of_row w k _ _ _ _ hk.2]
  have hj : j < n := by
    have := (List.getElem?_eq_some_iff.1 hv).1
    simp only [List.length_take] at this
    omega
  rw [List.getElem?_take_of_lt hj, List.getElem?_drop] at hv
  simpa using hv
theorem Cx.cell (h : Cx E B w0 w s H L) (i : Nat) {k T : Nat} {cs : List Value} (hi : H[i]? = some (k, cs, T)) (o : Nat) {v : Value} (hv : cs[o]? = some v) : w.cell? ⟨k, o, none⟩ = some v := by
  have hk := h.hl _ (List.mem_of_getElem? hi)
  rw [cell_of_row w k _ _ _ _ hk.2]
  simpa using hv
theorem Cx.there (h : Cx E B w0 w s H L) (i : Nat) {k T : Nat} {cs : List Value} (hi : H[i]? = some (k, cs, T)) (o n : Nat) (hn : o + n ≤ cs.length) : w.there k o n := by
  intro j hj
  have hk := h.hl _ (List.mem_of_getElem? hi)
  refine ⟨?_, frozen_row hk.2 _⟩
  rw [cell_of_row w k _ _ _ _ hk.2]
  simp only [List.getElem?_toArray, List.getElem?_eq_getElem (show o + j < cs.length by omega), Option.isSome_some]
variable {a : Act} {K : Act → World → Prop} {Q : Exit → Act → World → Prop} {o : Oper}
theorem wp_allocC (hC : Cx E B w0 w s H L) (T : Nat) (ho : o.op = .alloc T) {z : Value} (hz : (Tryz.prog.info? T).bind (·.zero) = some z)
    (h : ∀ W k, Cx E B w0 W s ((k, z.cells.toList, T) :: H) L → K (a.put o.dst (.pointer (some ⟨k, 0, none⟩))) W) : o.wp Tryz.prog a w K Q := by
  have h2 := h _ _ (hC.alloc z.cells.toList T)
  have e : (Instr.alloc T true (.tuple #[])).run Tryz.prog w = .ok (.pointer (some ⟨w.heap.size, 0, none⟩)) (w.alloc (.cells z.cells.toList.toArray T)) := by
    cases hi : Tryz.prog.info? T with
    | none => simp [hi] at hz
    | some i =>
      have hzz : i.zero = some z := by simpa [hi] using hz
      simp [Instr.alloc, zeroValue, typeInfo, hi, hzz, newVar, newRow]
  unfold Oper.wp execOp
  simp only [ho, Sem.run_bind, e, Result.andThen_ok]
  exact h2
theorem wp_boxC (hC : Cx E B w0 w s H L) (T : Nat) (x : Operand) (ho : o.op = .box T x) {v : Value} (he : a.eval x = v)
    (h : ∀ W k, Cx E B w0 W s ((k, v.cells.toList, T) :: H) L → K (a.put o.dst (.pointer (some ⟨k, 0, none⟩))) W) : o.wp Tryz.prog a w K Q := by
  have h2 := h _ _ (hC.alloc v.cells.toList T)
  have e : (Instr.box T v).run Tryz.prog w = .ok (.pointer (some ⟨w.heap.size, 0, none⟩)) (w.alloc (.cells v.cells.toList.toArray T)) := by
    simp [Instr.box, newVar, newRow]
  unfold Oper.wp execOp
  simp only [ho, he, Sem.run_bind, e, Result.andThen_ok]
  exact h2
theorem wp_loadC (hC : Cx E B w0 w s H L) (i : Nat) (T : Nat) (x : Operand) (ho : o.op = .load T x) {k TT : Nat} (he : a.eval x = .pointer (some ⟨k, 0, none⟩)) {cs : List Value} (hi : H[i]? = some (k, cs, TT)) {d : TypeDesc} (hu : Tryz.prog.underlying T = some d) (hd : d.isRow = true) (hs : (Tryz.prog.info? T).map (·.size) = some cs.length)
    (h : K (a.put o.dst (.agg cs.toArray)) w) : o.wp Tryz.prog a w K Q := by
  have hr := hC.range i hi 0 cs.length
  rw [List.drop_zero, List.take_of_length_le (Nat.le_refl _)] at hr
  exact wp_load_mid T x ho k 0 he cs d hr hu hd hs h
theorem wp_load1C (hC : Cx E B w0 w s H L) (i : Nat) (T : Nat) (x : Operand) (ho : o.op = .load T x) {k TT off : Nat} (he : a.eval x = .pointer (some ⟨k, off, none⟩)) {cs : List Value} (hi : H[i]? = some (k, cs, TT)) {v : Value} (hv : cs[off]? = some v) {d : TypeDesc} (hu : Tryz.prog.underlying T = some d) (hd : d.isRow = false)
    (h : K (a.put o.dst v) w) : o.wp Tryz.prog a w K Q := by
  have hc := hC.cell i hi off hv
  have e : (loadVar T ⟨k, off, none⟩).run Tryz.prog w = .ok v w := by
    have hagg : (isAgg T).run Tryz.prog w = .ok false w := by
      unfold isAgg
      rw [Sem.run_bind, run_underlying hu w]
      cases d <;> simp_all
    unfold loadVar
    simp [hagg, hc]
  unfold Oper.wp execOp
  simp only [ho, he, Instr.loadAt, Instr.sureAddr, Sem.run_bind, Sem.run_pure, Result.andThen_ok, e]
  exact h
theorem wp_storeC (hC : Cx E B w0 w s H L) (i : Nat) (T : Nat) (x y : Operand) (ho : o.op = .store T x y) {k TT : Nat} {cells : Array Value} (hx : a.eval x = .pointer (some ⟨k, 0, none⟩)) (hy : a.eval y = .agg cells) {cs : List Value} (hi : H[i]? = some (k, cs, TT)) (hl : cells.size = cs.length) (hs : (Tryz.prog.info? T).map (·.size) = some cells.size) (h1 : cells.all (·.oneCell') = true)
    (h : ∀ W, Cx E B w0 W s (H.set i (k, cells.toList, TT)) L → K (a.put o.dst undef) W) : o.wp Tryz.prog a w K Q := by
  have h2 := hC.set i hi 0 cells.toList (by simp; omega)
  have e : put cs 0 cells.toList = cells.toList := by
    unfold put
    rw [List.take_zero, List.nil_append, List.drop_eq_nil_of_le (by simp; omega), List.append_nil]
  rw [e] at h2
  exact wp_store_mid T x y ho k 0 cells hx hy (hC.there i hi 0 cells.size (by omega)) hs h1 (h _ h2)
theorem wp_store1C (hC : Cx E B w0 w s H L) (i : Nat) (T : Nat) (x y : Operand) (ho : o.op = .store T x y) {k TT off : Nat} {v : Value} (hx : a.eval x = .pointer (some ⟨k, off, none⟩)) (hy : a.eval y = v) {cs : List Value} (hi : H[i]? = some (k, cs, TT)) (hl : off < cs.length) (hs : (Tryz.prog.info? T).map (·.size) = some 1) (h1 : v.cells = #[v]) (h2 : v.oneCell' = true)
    (h : ∀ W, Cx E B w0 W s (H.set i (k, put cs off [v], TT)) L → K (a.put o.dst undef) W) : o.wp Tryz.prog a w K Q := by
  have h3 := hC.set i hi off [v] (by simp; omega)
  have ht := hC.there i hi off 1 (by omega)
  have e : (storeVar T ⟨k, off, none⟩ v).run Tryz.prog w = .ok () (w.setCells k off [v]) := by
    have := run_storeVar_mid (P := Tryz.prog) w k off T #[v] ht hs (by simp [h2])
    unfold storeVar at this ⊢
    rw [h1]
    exact this
  unfold Oper.wp execOp
  simp only [ho, hx, hy, Instr.storeAt, Instr.sureAddr, Sem.run_bind, Sem.run_pure, Result.andThen_ok, e]
  exact h _ h3
theorem wp_buildC (hC : Cx E B w0 w s H L) (len : Nat) (parts : Array (Nat × Operand)) (ho : o.op = .buildSlice 22 len parts) (css : List (List Value))
    (he : (parts.map fun (i, x) => (i, a.eval x)).toList = ((css.map fun c => Value.agg c.toArray).zipIdx 0).map fun x => (x.2, x.1)) (h4 : ∀ c ∈ css, c.length = 4) (hlen : css.length = len) (hpos : 0 < len) (hsmall : len ≤ 1000)
    (h : ∀ W k, Cx E B w0 W s ((k, css.flatten, 24) :: H) L → K (a.put o.dst (.slice (some ⟨k, 0, none⟩) len len)) W) : o.wp Tryz.prog a w K Q := by
  obtain ⟨ie, hie, hz, hsz, _⟩ := info_parts infoN
  have hf := Great.fill_whole (s := 4) (by decide) (css.map fun c => Value.agg c.toArray) ((Array.range (len * ie.size)).map (fun x => (Value.agg #[.string ⟨#[]⟩, .string ⟨#[]⟩, .int .i64 0, .slice none 0 0]).cells[x % (Value.agg #[.string ⟨#[]⟩, .string ⟨#[]⟩, .int .i64 0, .slice none 0 0]).cells.size]!)) (by
    intro v hv
    obtain ⟨c, hc, rfl⟩ := List.mem_map.1 hv
    simp [Value.cells, h4 c hc]) (by rw [hsz]; simp [hlen])
  have e2 := flat_aggs css
  rw [e2, ← he] at hf
  refine wp_buildSlice 22 24 len parts ho _ ie _ undNs hie hz (by rw [hsz]; omega) (by rw [hsz]; omega) (by rw [hsz] at hf ⊢; exact hf) ?_
  exact h _ _ (hC.alloc css.flatten 24)
theorem wp_buildSC (hC : Cx E B w0 w s H L) (len : Nat) (parts : Array (Nat × Operand)) (ho : o.op = .buildSlice 82 len parts) (ws : List ByteArray)
    (he : (parts.map fun (i, x) => (i, a.eval x)).toList = ((ws.map fun c => Value.string c).zipIdx 0).map fun x => (x.2, x.1)) (hlen : ws.length = len) (hpos : 0 < len) (hsmall : len ≤ 1000)
    (h : ∀ W k, Cx E B w0 W s ((k, ws.map Value.string, 9) :: H) L → K (a.put o.dst (.slice (some ⟨k, 0, none⟩) len len)) W) : o.wp Tryz.prog a w K Q := by
  obtain ⟨ie, hie, hz, hsz, _⟩ := info_parts infoS
  have hf := Great.fill_whole (s := 1) (by decide) (ws.map fun c => Value.string c) ((Array.range (len * ie.size)).map (fun x => (Value.string ⟨#[]⟩).cells[x % (Value.string ⟨#[]⟩).cells.size]!)) (by
    intro v hv
    obtain ⟨c, hc, rfl⟩ := List.mem_map.1 hv
    rfl) (by rw [hsz]; simp [hlen])
  have e2 := flat_strs ws
  rw [e2, ← he] at hf
  refine wp_buildSlice 82 9 len parts ho _ ie _ undSs hie hz (by rw [hsz]; omega) (by rw [hsz]; omega) (by rw [hsz] at hf ⊢; exact hf) ?_
  exact h _ _ (hC.alloc (ws.map Value.string) 9)
theorem wp_build1C (hC : Cx E B w0 w s H L) {x0 : Operand} (ho : o.op = .buildSlice 22 1 #[(0, x0)]) {c00 c01 c02 c03 : Value} (h0 : a.eval x0 = .agg #[c00, c01, c02, c03])
    (h : ∀ W k, Cx E B w0 W s ((k, [c00, c01, c02, c03], 24) :: H) L → K (a.put o.dst (.slice (some ⟨k, 0, none⟩) 1 1)) W) : o.wp Tryz.prog a w K Q :=
  wp_buildC hC 1 _ ho [[c00, c01, c02, c03]] (by simp [h0, List.zipIdx]) (by simp) rfl (by decide) (by decide) h
theorem wp_build2C (hC : Cx E B w0 w s H L) {x0 x1 : Operand} (ho : o.op = .buildSlice 22 2 #[(0, x0), (1, x1)]) {c00 c01 c02 c03 c10 c11 c12 c13 : Value} (h0 : a.eval x0 = .agg #[c00, c01, c02, c03]) (h1 : a.eval x1 = .agg #[c10, c11, c12, c13])
    (h : ∀ W k, Cx E B w0 W s ((k, [c00, c01, c02, c03, c10, c11, c12, c13], 24) :: H) L → K (a.put o.dst (.slice (some ⟨k, 0, none⟩) 2 2)) W) : o.wp Tryz.prog a w K Q :=
  wp_buildC hC 2 _ ho [[c00, c01, c02, c03], [c10, c11, c12, c13]] (by simp [h0, h1, List.zipIdx]) (by simp) rfl (by decide) (by decide) h
theorem wp_build3C (hC : Cx E B w0 w s H L) {x0 x1 x2 : Operand} (ho : o.op = .buildSlice 22 3 #[(0, x0), (1, x1), (2, x2)]) {c00 c01 c02 c03 c10 c11 c12 c13 c20 c21 c22 c23 : Value} (h0 : a.eval x0 = .agg #[c00, c01, c02, c03]) (h1 : a.eval x1 = .agg #[c10, c11, c12, c13]) (h2 : a.eval x2 = .agg #[c20, c21, c22, c23])
    (h : ∀ W k, Cx E B w0 W s ((k, [c00, c01, c02, c03, c10, c11, c12, c13, c20, c21, c22, c23], 24) :: H) L → K (a.put o.dst (.slice (some ⟨k, 0, none⟩) 3 3)) W) : o.wp Tryz.prog a w K Q :=
  wp_buildC hC 3 _ ho [[c00, c01, c02, c03], [c10, c11, c12, c13], [c20, c21, c22, c23]] (by simp [h0, h1, h2, List.zipIdx]) (by simp) rfl (by decide) (by decide) h
theorem wp_build5C (hC : Cx E B w0 w s H L) {x0 x1 x2 x3 x4 : Operand} (ho : o.op = .buildSlice 22 5 #[(0, x0), (1, x1), (2, x2), (3, x3), (4, x4)]) {c00 c01 c02 c03 c10 c11 c12 c13 c20 c21 c22 c23 c30 c31 c32 c33 c40 c41 c42 c43 : Value} (h0 : a.eval x0 = .agg #[c00, c01, c02, c03]) (h1 : a.eval x1 = .agg #[c10, c11, c12, c13]) (h2 : a.eval x2 = .agg #[c20, c21, c22, c23]) (h3 : a.eval x3 = .agg #[c30, c31, c32, c33]) (h4 : a.eval x4 = .agg #[c40, c41, c42, c43])
    (h : ∀ W k, Cx E B w0 W s ((k, [c00, c01, c02, c03, c10, c11, c12, c13, c20, c21, c22, c23, c30, c31, c32, c33, c40, c41, c42, c43], 24) :: H) L → K (a.put o.dst (.slice (some ⟨k, 0, none⟩) 5 5)) W) : o.wp Tryz.prog a w K Q :=
  wp_buildC hC 5 _ ho [[c00, c01, c02, c03], [c10, c11, c12, c13], [c20, c21, c22, c23], [c30, c31, c32, c33], [c40, c41, c42, c43]] (by simp [h0, h1, h2, h3, h4, List.zipIdx]) (by simp) rfl (by decide) (by decide) h
theorem wp_buildS1C (hC : Cx E B w0 w s H L) {x0 : Operand} (ho : o.op = .buildSlice 82 1 #[(0, x0)]) {s0 : ByteArray} (h0 : a.eval x0 = .string s0)
    (h : ∀ W k, Cx E B w0 W s ((k, [.string s0], 9) :: H) L → K (a.put o.dst (.slice (some ⟨k, 0, none⟩) 1 1)) W) : o.wp Tryz.prog a w K Q :=
  wp_buildSC hC 1 _ ho [s0] (by simp [h0, List.zipIdx]) rfl (by decide) (by decide) h
theorem wp_buildS2C (hC : Cx E B w0 w s H L) {x0 x1 : Operand} (ho : o.op = .buildSlice 82 2 #[(0, x0), (1, x1)]) {s0 s1 : ByteArray} (h0 : a.eval x0 = .string s0) (h1 : a.eval x1 = .string s1)
    (h : ∀ W k, Cx E B w0 W s ((k, [.string s0, .string s1], 9) :: H) L → K (a.put o.dst (.slice (some ⟨k, 0, none⟩) 2 2)) W) : o.wp Tryz.prog a w K Q :=
  wp_buildSC hC 2 _ ho [s0, s1] (by simp [h0, h1, List.zipIdx]) rfl (by decide) (by decide) h
theorem wp_buildS3C (hC : Cx E B w0 w s H L) {x0 x1 x2 : Operand} (ho : o.op = .buildSlice 82 3 #[(0, x0), (1, x1), (2, x2)]) {s0 s1 s2 : ByteArray} (h0 : a.eval x0 = .string s0) (h1 : a.eval x1 = .string s1) (h2 : a.eval x2 = .string s2)
    (h : ∀ W k, Cx E B w0 W s ((k, [.string s0, .string s1, .string s2], 9) :: H) L → K (a.put o.dst (.slice (some ⟨k, 0, none⟩) 3 3)) W) : o.wp Tryz.prog a w K Q :=
  wp_buildSC hC 3 _ ho [s0, s1, s2] (by simp [h0, h1, h2, List.zipIdx]) rfl (by decide) (by decide) h
theorem wp_buildS4C (hC : Cx E B w0 w s H L) {x0 x1 x2 x3 : Operand} (ho : o.op = .buildSlice 82 4 #[(0, x0), (1, x1), (2, x2), (3, x3)]) {s0 s1 s2 s3 : ByteArray} (h0 : a.eval x0 = .string s0) (h1 : a.eval x1 = .string s1) (h2 : a.eval x2 = .string s2) (h3 : a.eval x3 = .string s3)
    (h : ∀ W k, Cx E B w0 W s ((k, [.string s0, .string s1, .string s2, .string s3], 9) :: H) L → K (a.put o.dst (.slice (some ⟨k, 0, none⟩) 4 4)) W) : o.wp Tryz.prog a w K Q :=
  wp_buildSC hC 4 _ ho [s0, s1, s2, s3] (by simp [h0, h1, h2, h3, List.zipIdx]) rfl (by decide) (by decide) h
theorem wp_buildS6C (hC : Cx E B w0 w s H L) {x0 x1 x2 x3 x4 x5 : Operand} (ho : o.op = .buildSlice 82 6 #[(0, x0), (1, x1), (2, x2), (3, x3), (4, x4), (5, x5)]) {s0 s1 s2 s3 s4 s5 : ByteArray} (h0 : a.eval x0 = .string s0) (h1 : a.eval x1 = .string s1) (h2 : a.eval x2 = .string s2) (h3 : a.eval x3 = .string s3) (h4 : a.eval x4 = .string s4) (h5 : a.eval x5 = .string s5)
    (h : ∀ W k, Cx E B w0 W s ((k, [.string s0, .string s1, .string s2, .string s3, .string s4, .string s5], 9) :: H) L → K (a.put o.dst (.slice (some ⟨k, 0, none⟩) 6 6)) W) : o.wp Tryz.prog a w K Q :=
  wp_buildSC hC 6 _ ho [s0, s1, s2, s3, s4, s5] (by simp [h0, h1, h2, h3, h4, h5, List.zipIdx]) rfl (by decide) (by decide) h
theorem undNd : ∃ d, Tryz.prog.underlying 24 = some d ∧ d.isRow = true := by
  have h := undN
  cases hu : Tryz.prog.underlying 24 with
  | none => rw [hu] at h; cases h
  | some d => rw [hu] at h; exact ⟨d, rfl, by simpa using h⟩
theorem sizN : (Tryz.prog.info? 24).map (·.size) = some 4 := by kernel_rfl
theorem und1 {T : Nat} (h : (Tryz.prog.underlying T).map TypeDesc.isRow = some false) : ∃ d, Tryz.prog.underlying T = some d ∧ d.isRow = false := by
  cases hu : Tryz.prog.underlying T with
  | none => rw [hu] at h; cases h
  | some d => rw [hu] at h; exact ⟨d, rfl, by simpa using h⟩
theorem wp_allocN (hC : Cx E B w0 w s H L) (ho : o.op = .alloc 24)
    (h : ∀ W k, Cx E B w0 W s ((k, [.string ⟨#[]⟩, .string ⟨#[]⟩, .int .i64 0, .slice none 0 0], 24) :: H) L → K (a.put o.dst (.pointer (some ⟨k, 0, none⟩))) W) : o.wp Tryz.prog a w K Q :=
  wp_allocC hC _ ho (z := .agg #[.string ⟨#[]⟩, .string ⟨#[]⟩, .int .i64 0, .slice none 0 0]) (by kernel_rfl) h
theorem wp_loadN (hC : Cx E B w0 w s H L) (i : Nat) {x : Operand} (ho : o.op = .load 24 x) {k TT : Nat} (he : a.eval x = .pointer (some ⟨k, 0, none⟩)) {c0 c1 c2 c3 : Value} (hi : H[i]? = some (k, [c0, c1, c2, c3], TT))
    (h : K (a.put o.dst (.agg #[c0, c1, c2, c3])) w) : o.wp Tryz.prog a w K Q := by
  obtain ⟨d, hu, hd⟩ := undNd
  exact wp_loadC hC i _ x ho he hi hu hd sizN h
theorem wp_storeN (hC : Cx E B w0 w s H L) (i : Nat) {x y : Operand} (ho : o.op = .store 24 x y) {k TT : Nat} (hx : a.eval x = .pointer (some ⟨k, 0, none⟩)) {c0 c1 c2 c3 d0 d1 d2 d3 : Value} (hy : a.eval y = .agg #[c0, c1, c2, c3]) (hi : H[i]? = some (k, [d0, d1, d2, d3], TT))
    (h1 : c0.oneCell' = true) (h2 : c1.oneCell' = true) (h3 : c2.oneCell' = true) (h4 : c3.oneCell' = true)
    (h : ∀ W, Cx E B w0 W s (H.set i (k, [c0, c1, c2, c3], TT)) L → K (a.put o.dst undef) W) : o.wp Tryz.prog a w K Q :=
  wp_storeC hC i _ x y ho hx hy hi rfl sizN (by simp [h1, h2, h3, h4]) h
theorem wp_load1N (hC : Cx E B w0 w s H L) (i : Nat) {T : Nat} {x : Operand} (ho : o.op = .load T x) (hT : (Tryz.prog.underlying T).map TypeDesc.isRow = some false) {k TT off : Nat} (he : a.eval x = .pointer (some ⟨k, off, none⟩)) {cs : List Value} (hi : H[i]? = some (k, cs, TT)) {v : Value} (hv : cs[off]? = some v)
    (h : K (a.put o.dst v) w) : o.wp Tryz.prog a w K Q := by
  obtain ⟨d, hu, hd⟩ := und1 hT
  exact wp_load1C hC i T x ho he hi hv hu hd h
theorem wl_build1C {ops : Array Oper} {rest : List Oper} (hgd : o.guard = none) (hC : Cx E B w0 w s H L) {x0 : Operand} (ho : o.op = .buildSlice 22 1 #[(0, x0)]) {c00 c01 c02 c03 : Value} (h0 : a.eval x0 = .agg #[c00, c01, c02, c03])
    (h : ∀ W k, Cx E B w0 W s ((k, [c00, c01, c02, c03], 24) :: H) L → wpList Tryz.prog ops Q rest (a.put o.dst (.slice (some ⟨k, 0, none⟩) 1 1)) W) : wpList Tryz.prog ops Q (o :: rest) a w :=
  wpList_plain hgd fun K hK => wp_build1C hC ho h0 (fun W k hD => hK _ _ (h W k hD))
theorem wl_build2C {ops : Array Oper} {rest : List Oper} (hgd : o.guard = none) (hC : Cx E B w0 w s H L) {x0 x1 : Operand} (ho : o.op = .buildSlice 22 2 #[(0, x0), (1, x1)]) {c00 c01 c02 c03 c10 c11 c12 c13 : Value} (h0 : a.eval x0 = .agg #[c00, c01, c02, c03]) (h1 : a.eval x1 = .agg #[c10, c11, c12, c13])
    (h : ∀ W k, Cx E B w0 W s ((k, [c00, c01, c02, c03, c10, c11, c12, c13], 24) :: H) L → wpList Tryz.prog ops Q rest (a.put o.dst (.slice (some ⟨k, 0, none⟩) 2 2)) W) : wpList Tryz.prog ops Q (o :: rest) a w :=
  wpList_plain hgd fun K hK => wp_build2C hC ho h0 h1 (fun W k hD => hK _ _ (h W k hD))
theorem wl_build3C {ops : Array Oper} {rest : List Oper} (hgd : o.guard = none) (hC : Cx E B w0 w s H L) {x0 x1 x2 : Operand} (ho : o.op = .buildSlice 22 3 #[(0, x0), (1, x1), (2, x2)]) {c00 c01 c02 c03 c10 c11 c12 c13 c20 c21 c22 c23 : Value} (h0 : a.eval x0 = .agg #[c00, c01, c02, c03]) (h1 : a.eval x1 = .agg #[c10, c11, c12, c13]) (h2 : a.eval x2 = .agg #[c20, c21, c22, c23])
    (h : ∀ W k, Cx E B w0 W s ((k, [c00, c01, c02, c03, c10, c11, c12, c13, c20, c21, c22, c23], 24) :: H) L → wpList Tryz.prog ops Q rest (a.put o.dst (.slice (some ⟨k, 0, none⟩) 3 3)) W) : wpList Tryz.prog ops Q (o :: rest) a w :=
  wpList_plain hgd fun K hK => wp_build3C hC ho h0 h1 h2 (fun W k hD => hK _ _ (h W k hD))
theorem wl_build5C {ops : Array Oper} {rest : List Oper} (hgd : o.guard = none) (hC : Cx E B w0 w s H L) {x0 x1 x2 x3 x4 : Operand} (ho : o.op = .buildSlice 22 5 #[(0, x0), (1, x1), (2, x2), (3, x3), (4, x4)]) {c00 c01 c02 c03 c10 c11 c12 c13 c20 c21 c22 c23 c30 c31 c32 c33 c40 c41 c42 c43 : Value} (h0 : a.eval x0 = .agg #[c00, c01, c02, c03]) (h1 : a.eval x1 = .agg #[c10, c11, c12, c13]) (h2 : a.eval x2 = .agg #[c20, c21, c22, c23]) (h3 : a.eval x3 = .agg #[c30, c31, c32, c33]) (h4 : a.eval x4 = .agg #[c40, c41, c42, c43])
    (h : ∀ W k, Cx E B w0 W s ((k, [c00, c01, c02, c03, c10, c11, c12, c13, c20, c21, c22, c23, c30, c31, c32, c33, c40, c41, c42, c43], 24) :: H) L → wpList Tryz.prog ops Q rest (a.put o.dst (.slice (some ⟨k, 0, none⟩) 5 5)) W) : wpList Tryz.prog ops Q (o :: rest) a w :=
  wpList_plain hgd fun K hK => wp_build5C hC ho h0 h1 h2 h3 h4 (fun W k hD => hK _ _ (h W k hD))
theorem wl_buildS1C {ops : Array Oper} {rest : List Oper} (hgd : o.guard = none) (hC : Cx E B w0 w s H L) {x0 : Operand} (ho : o.op = .buildSlice 82 1 #[(0, x0)]) {s0 : ByteArray} (h0 : a.eval x0 = .string s0)
    (h : ∀ W k, Cx E B w0 W s ((k, [.string s0], 9) :: H) L → wpList Tryz.prog ops Q rest (a.put o.dst (.slice (some ⟨k, 0, none⟩) 1 1)) W) : wpList Tryz.prog ops Q (o :: rest) a w :=
  wpList_plain hgd fun K hK => wp_buildS1C hC ho h0 (fun W k hD => hK _ _ (h W k hD))
theorem wl_buildS2C {ops : Array Oper} {rest : List Oper} (hgd : o.guard = none) (hC : Cx E B w0 w s H L) {x0 x1 : Operand} (ho : o.op = .buildSlice 82 2 #[(0, x0), (1, x1)]) {s0 s1 : ByteArray} (h0 : a.eval x0 = .string s0) (h1 : a.eval x1 = .string s1)
    (h : ∀ W k, Cx E B w0 W s ((k, [.string s0, .string s1], 9) :: H) L → wpList Tryz.prog ops Q rest (a.put o.dst (.slice (some ⟨k, 0, none⟩) 2 2)) W) : wpList Tryz.prog ops Q (o :: rest) a w :=
  wpList_plain hgd fun K hK => wp_buildS2C hC ho h0 h1 (fun W k hD => hK _ _ (h W k hD))
theorem wl_buildS3C {ops : Array Oper} {rest : List Oper} (hgd : o.guard = none) (hC : Cx E B w0 w s H L) {x0 x1 x2 : Operand} (ho : o.op = .buildSlice 82 3 #[(0, x0), (1, x1), (2, x2)]) {s0 s1 s2 : ByteArray} (h0 : a.eval x0 = .string s0) (h1 : a.eval x1 = .string s1) (h2 : a.eval x2 = .string s2)
    (h : ∀ W k, Cx E B w0 W s ((k, [.string s0, .string s1, .string s2], 9) :: H) L → wpList Tryz.prog ops Q rest (a.put o.dst (.slice (some ⟨k, 0, none⟩) 3 3)) W) : wpList Tryz.prog ops Q (o :: rest) a w :=
  wpList_plain hgd fun K hK => wp_buildS3C hC ho h0 h1 h2 (fun W k hD => hK _ _ (h W k hD))
theorem wl_buildS4C {ops : Array Oper} {rest : List Oper} (hgd : o.guard = none) (hC : Cx E B w0 w s H L) {x0 x1 x2 x3 : Operand} (ho : o.op = .buildSlice 82 4 #[(0, x0), (1, x1), (2, x2), (3, x3)]) {s0 s1 s2 s3 : ByteArray} (h0 : a.eval x0 = .string s0) (h1 : a.eval x1 = .string s1) (h2 : a.eval x2 = .string s2) (h3 : a.eval x3 = .string s3)
    (h : ∀ W k, Cx E B w0 W s ((k, [.string s0, .string s1, .string s2, .string s3], 9) :: H) L → wpList Tryz.prog ops Q rest (a.put o.dst (.slice (some ⟨k, 0, none⟩) 4 4)) W) : wpList Tryz.prog ops Q (o :: rest) a w :=
  wpList_plain hgd fun K hK => wp_buildS4C hC ho h0 h1 h2 h3 (fun W k hD => hK _ _ (h W k hD))
theorem wl_buildS6C {ops : Array Oper} {rest : List Oper} (hgd : o.guard = none) (hC : Cx E B w0 w s H L) {x0 x1 x2 x3 x4 x5 : Operand} (ho : o.op = .buildSlice 82 6 #[(0, x0), (1, x1), (2, x2), (3, x3), (4, x4), (5, x5)]) {s0 s1 s2 s3 s4 s5 : ByteArray} (h0 : a.eval x0 = .string s0) (h1 : a.eval x1 = .string s1) (h2 : a.eval x2 = .string s2) (h3 : a.eval x3 = .string s3) (h4 : a.eval x4 = .string s4) (h5 : a.eval x5 = .string s5)
    (h : ∀ W k, Cx E B w0 W s ((k, [.string s0, .string s1, .string s2, .string s3, .string s4, .string s5], 9) :: H) L → wpList Tryz.prog ops Q rest (a.put o.dst (.slice (some ⟨k, 0, none⟩) 6 6)) W) : wpList Tryz.prog ops Q (o :: rest) a w :=
  wpList_plain hgd fun K hK => wp_buildS6C hC ho h0 h1 h2 h3 h4 h5 (fun W k hD => hK _ _ (h W k hD))
theorem wl_allocN {ops : Array Oper} {rest : List Oper} (hgd : o.guard = none) (hC : Cx E B w0 w s H L) (ho : o.op = .alloc 24)
    (h : ∀ W k, Cx E B w0 W s ((k, [.string ⟨#[]⟩, .string ⟨#[]⟩, .int .i64 0, .slice none 0 0], 24) :: H) L → wpList Tryz.prog ops Q rest (a.put o.dst (.pointer (some ⟨k, 0, none⟩))) W) : wpList Tryz.prog ops Q (o :: rest) a w :=
  wpList_plain hgd fun K hK => wp_allocN hC ho (fun W k hD => hK _ _ (h W k hD))
theorem wl_storeN {ops : Array Oper} {rest : List Oper} (hgd : o.guard = none) (hC : Cx E B w0 w s H L) (i : Nat) {x y : Operand} (ho : o.op = .store 24 x y) {k TT : Nat} (hx : a.eval x = .pointer (some ⟨k, 0, none⟩)) {c0 c1 c2 c3 d0 d1 d2 d3 : Value} (hy : a.eval y = .agg #[c0, c1, c2, c3]) (hi : H[i]? = some (k, [d0, d1, d2, d3], TT))
    (h1 : c0.oneCell' = true) (h2 : c1.oneCell' = true) (h3 : c2.oneCell' = true) (h4 : c3.oneCell' = true)
    (h : ∀ W, Cx E B w0 W s (H.set i (k, [c0, c1, c2, c3], TT)) L → wpList Tryz.prog ops Q rest (a.put o.dst undef) W) : wpList Tryz.prog ops Q (o :: rest) a w :=
  wpList_plain hgd fun K hK => wp_storeN hC i ho hx hy hi h1 h2 h3 h4 (fun W hD => hK _ _ (h W hD))
theorem wp_boxP (hC : Cx E B w0 w s H L) {T : Nat} {x : Operand} (ho : o.op = .box T x) {p : Option Addr} (he : a.eval x = .pointer p)
    (h : ∀ W k, Cx E B w0 W s ((k, [.pointer p], T) :: H) L → K (a.put o.dst (.pointer (some ⟨k, 0, none⟩))) W) : o.wp Tryz.prog a w K Q := wp_boxC hC T x ho he h
theorem wp_boxN (hC : Cx E B w0 w s H L) {T : Nat} {x : Operand} (ho : o.op = .box T x) {c0 c1 c2 c3 : Value} (he : a.eval x = .agg #[c0, c1, c2, c3])
    (h : ∀ W k, Cx E B w0 W s ((k, [c0, c1, c2, c3], T) :: H) L → K (a.put o.dst (.pointer (some ⟨k, 0, none⟩))) W) : o.wp Tryz.prog a w K Q := wp_boxC hC T x ho he h
theorem wp_storeL (hC : Cx E B w0 w s H L) (i : Nat) {x y : Operand} (ho : o.op = .store 22 x y) {k TT : Nat} {ao : Option Addr} {n cap : Nat} (hx : a.eval x = .pointer (some ⟨k, 3, none⟩)) (hy : a.eval y = .slice ao n cap) {c0 c1 c2 c3 : Value} (hi : H[i]? = some (k, [c0, c1, c2, c3], TT))
    (h : ∀ W, Cx E B w0 W s (H.set i (k, [c0, c1, c2, .slice ao n cap], TT)) L → K (a.put o.dst undef) W) : o.wp Tryz.prog a w K Q :=
  wp_store1C hC i _ x y ho hx hy hi (by simp) (by kernel_rfl) rfl rfl h
theorem wl_boxP {ops : Array Oper} {rest : List Oper} (hgd : o.guard = none) (hC : Cx E B w0 w s H L) {T : Nat} {x : Operand} (ho : o.op = .box T x) {p : Option Addr} (he : a.eval x = .pointer p)
    (h : ∀ W k, Cx E B w0 W s ((k, [.pointer p], T) :: H) L → wpList Tryz.prog ops Q rest (a.put o.dst (.pointer (some ⟨k, 0, none⟩))) W) : wpList Tryz.prog ops Q (o :: rest) a w :=
  wpList_plain hgd fun K hK => wp_boxP hC ho he (fun W k hD => hK _ _ (h W k hD))
theorem wl_boxN {ops : Array Oper} {rest : List Oper} (hgd : o.guard = none) (hC : Cx E B w0 w s H L) {T : Nat} {x : Operand} (ho : o.op = .box T x) {c0 c1 c2 c3 : Value} (he : a.eval x = .agg #[c0, c1, c2, c3])
    (h : ∀ W k, Cx E B w0 W s ((k, [c0, c1, c2, c3], T) :: H) L → wpList Tryz.prog ops Q rest (a.put o.dst (.pointer (some ⟨k, 0, none⟩))) W) : wpList Tryz.prog ops Q (o :: rest) a w :=
  wpList_plain hgd fun K hK => wp_boxN hC ho he (fun W k hD => hK _ _ (h W k hD))
theorem wl_storeL {ops : Array Oper} {rest : List Oper} (hgd : o.guard = none) (hC : Cx E B w0 w s H L) (i : Nat) {x y : Operand} (ho : o.op = .store 22 x y) {k TT : Nat} {ao : Option Addr} {n cap : Nat} (hx : a.eval x = .pointer (some ⟨k, 3, none⟩)) (hy : a.eval y = .slice ao n cap) {c0 c1 c2 c3 : Value} (hi : H[i]? = some (k, [c0, c1, c2, c3], TT))
    (h : ∀ W, Cx E B w0 W s (H.set i (k, [c0, c1, c2, .slice ao n cap], TT)) L → wpList Tryz.prog ops Q rest (a.put o.dst undef) W) : wpList Tryz.prog ops Q (o :: rest) a w :=
  wpList_plain hgd fun K hK => wp_storeL hC i ho hx hy hi (fun W hD => hK _ _ (h W hD))
theorem wp_box1 (hC : Cx E B w0 w s H L) {T : Nat} {x : Operand} (ho : o.op = .box T x) {v : Value} (he : a.eval x = v) (hv : v.cells = #[v])
    (h : ∀ W k, Cx E B w0 W s ((k, [v], T) :: H) L → K (a.put o.dst (.pointer (some ⟨k, 0, none⟩))) W) : o.wp Tryz.prog a w K Q := wp_boxC hC T x ho he (fun W k hD => h W k (by rw [hv] at hD; exact hD))
theorem wl_box1 {ops : Array Oper} {rest : List Oper} (hgd : o.guard = none) (hC : Cx E B w0 w s H L) {T : Nat} {x : Operand} (ho : o.op = .box T x) {v : Value} (he : a.eval x = v) (hv : v.cells = #[v])
    (h : ∀ W k, Cx E B w0 W s ((k, [v], T) :: H) L → wpList Tryz.prog ops Q rest (a.put o.dst (.pointer (some ⟨k, 0, none⟩))) W) : wpList Tryz.prog ops Q (o :: rest) a w :=
  wpList_plain hgd fun K hK => wp_box1 hC ho he hv (fun W k hD => hK _ _ (h W k hD))
theorem wp_load1M (hC : Cx E B w0 w s H L) {T : Nat} {x : Operand} (ho : o.op = .load T x) (hT : (Tryz.prog.underlying T).map TypeDesc.isRow = some false) {k TT off : Nat} (he : a.eval x = .pointer (some ⟨k, off, none⟩)) {cs : List Value} (hm : (k, cs, TT) ∈ H) {v : Value} (hv : cs[off]? = some v)
    (h : K (a.put o.dst v) w) : o.wp Tryz.prog a w K Q := by
  obtain ⟨i, hi, e⟩ := List.mem_iff_getElem.1 hm
  exact wp_load1N hC i ho hT he (by rw [List.getElem?_eq_getElem hi, e]) hv h
theorem wl_load1M {ops : Array Oper} {rest : List Oper} (hgd : o.guard = none) (hC : Cx E B w0 w s H L) {T : Nat} {x : Operand} (ho : o.op = .load T x) (hT : (Tryz.prog.underlying T).map TypeDesc.isRow = some false) {k TT off : Nat} (he : a.eval x = .pointer (some ⟨k, off, none⟩)) {cs : List Value} (hm : (k, cs, TT) ∈ H) {v : Value} (hv : cs[off]? = some v)
    (h : wpList Tryz.prog ops Q rest (a.put o.dst v) w) : wpList Tryz.prog ops Q (o :: rest) a w :=
  wpList_plain hgd fun K hK => wp_load1M hC ho hT he hm hv (hK _ _ h)
theorem wp_loadNM (hC : Cx E B w0 w s H L) {x : Operand} (ho : o.op = .load 24 x) {k TT : Nat} (he : a.eval x = .pointer (some ⟨k, 0, none⟩)) {c0 c1 c2 c3 : Value} (hm : (k, [c0, c1, c2, c3], TT) ∈ H)
    (h : K (a.put o.dst (.agg #[c0, c1, c2, c3])) w) : o.wp Tryz.prog a w K Q := by
  obtain ⟨i, hi, e⟩ := List.mem_iff_getElem.1 hm
  exact wp_loadN hC i ho he (by rw [List.getElem?_eq_getElem hi, e]) h
theorem wl_loadNM {ops : Array Oper} {rest : List Oper} (hgd : o.guard = none) (hC : Cx E B w0 w s H L) {x : Operand} (ho : o.op = .load 24 x) {k TT : Nat} (he : a.eval x = .pointer (some ⟨k, 0, none⟩)) {c0 c1 c2 c3 : Value} (hm : (k, [c0, c1, c2, c3], TT) ∈ H)
    (h : wpList Tryz.prog ops Q rest (a.put o.dst (.agg #[c0, c1, c2, c3])) w) : wpList Tryz.prog ops Q (o :: rest) a w :=
  wpList_plain hgd fun K hK => wp_loadNM hC ho he hm (hK _ _ h)
theorem wp_allocS (hC : Cx E B w0 w s H L) (ho : o.op = .alloc 9)
    (h : ∀ W k, Cx E B w0 W s ((k, [.string ⟨#[]⟩], 9) :: H) L → K (a.put o.dst (.pointer (some ⟨k, 0, none⟩))) W) : o.wp Tryz.prog a w K Q :=
  wp_allocC hC _ ho (z := .string ⟨#[]⟩) (by kernel_rfl) h
theorem wl_allocS {ops : Array Oper} {rest : List Oper} (hgd : o.guard = none) (hC : Cx E B w0 w s H L) (ho : o.op = .alloc 9)
    (h : ∀ W k, Cx E B w0 W s ((k, [.string ⟨#[]⟩], 9) :: H) L → wpList Tryz.prog ops Q rest (a.put o.dst (.pointer (some ⟨k, 0, none⟩))) W) : wpList Tryz.prog ops Q (o :: rest) a w :=
  wpList_plain hgd fun K hK => wp_allocS hC ho (fun W k hD => hK _ _ (h W k hD))
theorem wl_storeS {ops : Array Oper} {rest : List Oper} (hgd : o.guard = none) (hC : Cx E B w0 w s H L) (i : Nat) {x y : Operand} (ho : o.op = .store 9 x y) {k TT : Nat} {b : ByteArray} (hx : a.eval x = .pointer (some ⟨k, 0, none⟩)) (hy : a.eval y = .string b) {c0 : Value} (hi : H[i]? = some (k, [c0], TT))
    (h : ∀ W, Cx E B w0 W s (H.set i (k, [.string b], TT)) L → wpList Tryz.prog ops Q rest (a.put o.dst undef) W) : wpList Tryz.prog ops Q (o :: rest) a w :=
  wpList_plain hgd fun K hK => wp_store1C hC i _ x y ho hx hy hi (by simp) (by kernel_rfl) rfl rfl (fun W hD => hK _ _ (h W hD))
end
end Go.Proofs.YtaenpacfbheppaaGreatDoor

namespace Go.Proofs.YtaenpacfbheppaaGreatDoor
open Go.RowKit
section
variable {E : Env} {B : Nat} {w0 w : World} {s : Stt} {H : List Bx} {L : List Tn} {a : Act} {Q : Exit → Act → World → Prop} {o : Oper} {ops : Array Oper} {rest : List Oper}
theorem Cx.aS (hC : Cx E B w0 w s H L) (h : ∀ W k, Cx E B w0 W s ((k, [.string ⟨#[]⟩], 9) :: H) L → wpList Tryz.prog ops Q rest (a.put o.dst (.pointer (some ⟨k, 0, none⟩))) W) (hgd : o.guard = none := by rfl) (ho : o.op = .alloc 9 := by rfl) : wpList Tryz.prog ops Q (o :: rest) a w :=
  wl_allocS hgd hC ho h
theorem Cx.sS {x y : Operand} {k TT : Nat} {b : ByteArray} {c0 : Value} (hC : Cx E B w0 w s H L) (i : Nat) (h : ∀ W, Cx E B w0 W s (H.set i (k, [.string b], TT)) L → wpList Tryz.prog ops Q rest (a.put o.dst undef) W) (hgd : o.guard = none := by rfl) (ho : o.op = .store 9 x y := by rfl) (hx : a.eval x = .pointer (some ⟨k, 0, none⟩) := by rfl) (hy : a.eval y = .string b := by rfl) (hi : H[i]? = some (k, [c0], TT) := by rfl) : wpList Tryz.prog ops Q (o :: rest) a w :=
  wl_storeS hgd hC i ho hx hy hi h
theorem Cx.aN (hC : Cx E B w0 w s H L) (h : ∀ W k, Cx E B w0 W s ((k, [.string ⟨#[]⟩, .string ⟨#[]⟩, .int .i64 0, .slice none 0 0], 24) :: H) L → wpList Tryz.prog ops Q rest (a.put o.dst (.pointer (some ⟨k, 0, none⟩))) W) (hgd : o.guard = none := by rfl) (ho : o.op = .alloc 24 := by rfl) : wpList Tryz.prog ops Q (o :: rest) a w :=
  wl_allocN hgd hC ho h
theorem Cx.bP {T : Nat} {x : Operand} {p : Option Addr} (hC : Cx E B w0 w s H L) (h : ∀ W k, Cx E B w0 W s ((k, [.pointer p], T) :: H) L → wpList Tryz.prog ops Q rest (a.put o.dst (.pointer (some ⟨k, 0, none⟩))) W) (hgd : o.guard = none := by rfl) (ho : o.op = .box T x := by rfl) (he : a.eval x = .pointer p := by rfl) : wpList Tryz.prog ops Q (o :: rest) a w :=
  wl_boxP hgd hC ho he h
theorem Cx.bN {T : Nat} {x : Operand} {c0 c1 c2 c3 : Value} (hC : Cx E B w0 w s H L) (h : ∀ W k, Cx E B w0 W s ((k, [c0, c1, c2, c3], T) :: H) L → wpList Tryz.prog ops Q rest (a.put o.dst (.pointer (some ⟨k, 0, none⟩))) W) (hgd : o.guard = none := by rfl) (ho : o.op = .box T x := by rfl) (he : a.eval x = .agg #[c0, c1, c2, c3] := by rfl) : wpList Tryz.prog ops Q (o :: rest) a w :=
  wl_boxN hgd hC ho he h
theorem Cx.b1 {T : Nat} {x : Operand} {v : Value} (hC : Cx E B w0 w s H L) (h : ∀ W k, Cx E B w0 W s ((k, [v], T) :: H) L → wpList Tryz.prog ops Q rest (a.put o.dst (.pointer (some ⟨k, 0, none⟩))) W) (hgd : o.guard = none := by rfl) (ho : o.op = .box T x := by rfl) (he : a.eval x = v := by rfl) (hv : v.cells = #[v] := by rfl) : wpList Tryz.prog ops Q (o :: rest) a w :=
  wl_box1 hgd hC ho he hv h
theorem Cx.lN {x : Operand} {k TT : Nat} {c0 c1 c2 c3 : Value} (hC : Cx E B w0 w s H L) (h : wpList Tryz.prog ops Q rest (a.put o.dst (.agg #[c0, c1, c2, c3])) w) (hgd : o.guard = none := by rfl) (ho : o.op = .load 24 x := by rfl) (he : a.eval x = .pointer (some ⟨k, 0, none⟩) := by rfl) (hm : (k, [c0, c1, c2, c3], TT) ∈ H := by repeat (first | exact List.mem_cons_self | assumption | apply List.mem_cons_of_mem)) : wpList Tryz.prog ops Q (o :: rest) a w :=
  wl_loadNM hgd hC ho he hm h
theorem Cx.l1 {T : Nat} {x : Operand} {k TT off : Nat} {cs : List Value} {v : Value} (hC : Cx E B w0 w s H L) (h : wpList Tryz.prog ops Q rest (a.put o.dst v) w) (hgd : o.guard = none := by rfl) (ho : o.op = .load T x := by rfl) (hT : (Tryz.prog.underlying T).map TypeDesc.isRow = some false := by kernel_rfl) (he : a.eval x = .pointer (some ⟨k, off, none⟩) := by rfl) (hm : (k, cs, TT) ∈ H := by repeat (first | exact List.mem_cons_self | assumption | apply List.mem_cons_of_mem)) (hv : cs[off]? = some v := by rfl) : wpList Tryz.prog ops Q (o :: rest) a w :=
  wl_load1M hgd hC ho hT he hm hv h
theorem Cx.sN {x y : Operand} {k TT : Nat} {c0 c1 c2 c3 d0 d1 d2 d3 : Value} (hC : Cx E B w0 w s H L) (i : Nat) (h : ∀ W, Cx E B w0 W s (H.set i (k, [c0, c1, c2, c3], TT)) L → wpList Tryz.prog ops Q rest (a.put o.dst undef) W) (hgd : o.guard = none := by rfl) (ho : o.op = .store 24 x y := by rfl) (hx : a.eval x = .pointer (some ⟨k, 0, none⟩) := by rfl) (hy : a.eval y = .agg #[c0, c1, c2, c3] := by rfl) (hi : H[i]? = some (k, [d0, d1, d2, d3], TT) := by rfl) (h1 : c0.oneCell' = true := by rfl) (h2 : c1.oneCell' = true := by rfl) (h3 : c2.oneCell' = true := by rfl) (h4 : c3.oneCell' = true := by rfl) : wpList Tryz.prog ops Q (o :: rest) a w :=
  wl_storeN hgd hC i ho hx hy hi h1 h2 h3 h4 h
theorem Cx.sL {x y : Operand} {k TT : Nat} {ao : Option Addr} {n cap : Nat} {c0 c1 c2 c3 : Value} (hC : Cx E B w0 w s H L) (i : Nat) (h : ∀ W, Cx E B w0 W s (H.set i (k, [c0, c1, c2, .slice ao n cap], TT)) L → wpList Tryz.prog ops Q rest (a.put o.dst undef) W) (hgd : o.guard = none := by rfl) (ho : o.op = .store 22 x y := by rfl) (hx : a.eval x = .pointer (some ⟨k, 3, none⟩) := by rfl) (hy : a.eval y = .slice ao n cap := by rfl) (hi : H[i]? = some (k, [c0, c1, c2, c3], TT) := by rfl) : wpList Tryz.prog ops Q (o :: rest) a w :=
  wl_storeL hgd hC i ho hx hy hi h
theorem Cx.B1 {x0 : Operand} {c00 c01 c02 c03 : Value} (hC : Cx E B w0 w s H L) (h : ∀ W k, Cx E B w0 W s ((k, [c00, c01, c02, c03], 24) :: H) L → wpList Tryz.prog ops Q rest (a.put o.dst (.slice (some ⟨k, 0, none⟩) 1 1)) W) (hgd : o.guard = none := by rfl) (ho : o.op = .buildSlice 22 1 #[(0, x0)] := by rfl) (h0 : a.eval x0 = .agg #[c00, c01, c02, c03] := by rfl) : wpList Tryz.prog ops Q (o :: rest) a w :=
  wl_build1C hgd hC ho h0 h
theorem Cx.B2 {x0 x1 : Operand} {c00 c01 c02 c03 c10 c11 c12 c13 : Value} (hC : Cx E B w0 w s H L) (h : ∀ W k, Cx E B w0 W s ((k, [c00, c01, c02, c03, c10, c11, c12, c13], 24) :: H) L → wpList Tryz.prog ops Q rest (a.put o.dst (.slice (some ⟨k, 0, none⟩) 2 2)) W) (hgd : o.guard = none := by rfl) (ho : o.op = .buildSlice 22 2 #[(0, x0), (1, x1)] := by rfl) (h0 : a.eval x0 = .agg #[c00, c01, c02, c03] := by rfl) (h1 : a.eval x1 = .agg #[c10, c11, c12, c13] := by rfl) : wpList Tryz.prog ops Q (o :: rest) a w :=
  wl_build2C hgd hC ho h0 h1 h
theorem Cx.B3 {x0 x1 x2 : Operand} {c00 c01 c02 c03 c10 c11 c12 c13 c20 c21 c22 c23 : Value} (hC : Cx E B w0 w s H L) (h : ∀ W k, Cx E B w0 W s ((k, [c00, c01, c02, c03, c10, c11, c12, c13, c20, c21, c22, c23], 24) :: H) L → wpList Tryz.prog ops Q rest (a.put o.dst (.slice (some ⟨k, 0, none⟩) 3 3)) W) (hgd : o.guard = none := by rfl) (ho : o.op = .buildSlice 22 3 #[(0, x0), (1, x1), (2, x2)] := by rfl) (h0 : a.eval x0 = .agg #[c00, c01, c02, c03] := by rfl) (h1 : a.eval x1 = .agg #[c10, c11, c12, c13] := by rfl) (h2 : a.eval x2 = .agg #[c20, c21, c22, c23] := by rfl) : wpList Tryz.prog ops Q (o :: rest) a w :=
  wl_build3C hgd hC ho h0 h1 h2 h
theorem Cx.B5 {x0 x1 x2 x3 x4 : Operand} {c00 c01 c02 c03 c10 c11 c12 c13 c20 c21 c22 c23 c30 c31 c32 c33 c40 c41 c42 c43 : Value} (hC : Cx E B w0 w s H L) (h : ∀ W k, Cx E B w0 W s ((k, [c00, c01, c02, c03, c10, c11, c12, c13, c20, c21, c22, c23, c30, c31, c32, c33, c40, c41, c42, c43], 24) :: H) L → wpList Tryz.prog ops Q rest (a.put o.dst (.slice (some ⟨k, 0, none⟩) 5 5)) W) (hgd : o.guard = none := by rfl) (ho : o.op = .buildSlice 22 5 #[(0, x0), (1, x1), (2, x2), (3, x3), (4, x4)] := by rfl) (h0 : a.eval x0 = .agg #[c00, c01, c02, c03] := by rfl) (h1 : a.eval x1 = .agg #[c10, c11, c12, c13] := by rfl) (h2 : a.eval x2 = .agg #[c20, c21, c22, c23] := by rfl) (h3 : a.eval x3 = .agg #[c30, c31, c32, c33] := by rfl) (h4 : a.eval x4 = .agg #[c40, c41, c42, c43] := by rfl) : wpList Tryz.prog ops Q (o :: rest) a w :=
  wl_build5C hgd hC ho h0 h1 h2 h3 h4 h
theorem Cx.S1 {x0 : Operand} {s0 : ByteArray} (hC : Cx E B w0 w s H L) (h : ∀ W k, Cx E B w0 W s ((k, [.string s0], 9) :: H) L → wpList Tryz.prog ops Q rest (a.put o.dst (.slice (some ⟨k, 0, none⟩) 1 1)) W) (hgd : o.guard = none := by rfl) (ho : o.op = .buildSlice 82 1 #[(0, x0)] := by rfl) (h0 : a.eval x0 = .string s0 := by rfl) : wpList Tryz.prog ops Q (o :: rest) a w :=
  wl_buildS1C hgd hC ho h0 h
theorem Cx.S2 {x0 x1 : Operand} {s0 s1 : ByteArray} (hC : Cx E B w0 w s H L) (h : ∀ W k, Cx E B w0 W s ((k, [.string s0, .string s1], 9) :: H) L → wpList Tryz.prog ops Q rest (a.put o.dst (.slice (some ⟨k, 0, none⟩) 2 2)) W) (hgd : o.guard = none := by rfl) (ho : o.op = .buildSlice 82 2 #[(0, x0), (1, x1)] := by rfl) (h0 : a.eval x0 = .string s0 := by rfl) (h1 : a.eval x1 = .string s1 := by rfl) : wpList Tryz.prog ops Q (o :: rest) a w :=
  wl_buildS2C hgd hC ho h0 h1 h
theorem Cx.S3 {x0 x1 x2 : Operand} {s0 s1 s2 : ByteArray} (hC : Cx E B w0 w s H L) (h : ∀ W k, Cx E B w0 W s ((k, [.string s0, .string s1, .string s2], 9) :: H) L → wpList Tryz.prog ops Q rest (a.put o.dst (.slice (some ⟨k, 0, none⟩) 3 3)) W) (hgd : o.guard = none := by rfl) (ho : o.op = .buildSlice 82 3 #[(0, x0), (1, x1), (2, x2)] := by rfl) (h0 : a.eval x0 = .string s0 := by rfl) (h1 : a.eval x1 = .string s1 := by rfl) (h2 : a.eval x2 = .string s2 := by rfl) : wpList Tryz.prog ops Q (o :: rest) a w :=
  wl_buildS3C hgd hC ho h0 h1 h2 h
theorem Cx.S4 {x0 x1 x2 x3 : Operand} {s0 s1 s2 s3 : ByteArray} (hC : Cx E B w0 w s H L) (h : ∀ W k, Cx E B w0 W s ((k, [.string s0, .string s1, .string s2, .string s3], 9) :: H) L → wpList Tryz.prog ops Q rest (a.put o.dst (.slice (some ⟨k, 0, none⟩) 4 4)) W) (hgd : o.guard = none := by rfl) (ho : o.op = .buildSlice 82 4 #[(0, x0), (1, x1), (2, x2), (3, x3)] := by rfl) (h0 : a.eval x0 = .string s0 := by rfl) (h1 : a.eval x1 = .string s1 := by rfl) (h2 : a.eval x2 = .string s2 := by rfl) (h3 : a.eval x3 = .string s3 := by rfl) : wpList Tryz.prog ops Q (o :: rest) a w :=
  wl_buildS4C hgd hC ho h0 h1 h2 h3 h
theorem Cx.S6 {x0 x1 x2 x3 x4 x5 : Operand} {s0 s1 s2 s3 s4 s5 : ByteArray} (hC : Cx E B w0 w s H L) (h : ∀ W k, Cx E B w0 W s ((k, [.string s0, .string s1, .string s2, .string s3, .string s4, .string s5], 9) :: H) L → wpList Tryz.prog ops Q rest (a.put o.dst (.slice (some ⟨k, 0, none⟩) 6 6)) W) (hgd : o.guard = none := by rfl) (ho : o.op = .buildSlice 82 6 #[(0, x0), (1, x1), (2, x2), (3, x3), (4, x4), (5, x5)] := by rfl) (h0 : a.eval x0 = .string s0 := by rfl) (h1 : a.eval x1 = .string s1 := by rfl) (h2 : a.eval x2 = .string s2 := by rfl) (h3 : a.eval x3 = .string s3 := by rfl) (h4 : a.eval x4 = .string s4 := by rfl) (h5 : a.eval x5 = .string s5 := by rfl) : wpList Tryz.prog ops Q (o :: rest) a w :=
  wl_buildS6C hgd hC ho h0 h1 h2 h3 h4 h5 h
end
end Go.Proofs.YtaenpacfbheppaaGreatDoor

namespace Go.Proofs.YtaenpacfbheppaaGreatDoor
open Go.RowKit

abbrev stopV : Value := .iface 36 (.agg #[])
abbrev stopP : List PanicEntry := [{ v := stopV, recovered := false }]
inductive Out where
  | stop
  | nd (t : Tr) (s : Stt)
  | ls (l : List Tr) (s : Stt)
  | v (x : Value) (s : Stt)
  | nb (t : Tr) (b : Bool) (s : Stt)
def Out.P (E : Env) (B : Nat) (w0 : World) (H : List Bx) (L : List Tn) : Out → Ending → World → Prop
  | .stop, e, W => e = .panicked stopP ∧ Fr w0 W (fun i => i = E.b)
  | .nd t s, e, W => ∃ ao cap, e = .returned (nv t.op t.s t.n ao t.L.length cap) ∧ Cx E B w0 W s H ((ao, cap, t) :: L)
  | .ls l s, e, W => ∃ ao cap, e = .returned (.slice ao l.length cap) ∧ Cx E B w0 W s H ((ao, cap, Go.Proofs.YtaenpacfbheppaaGreatDoor.ls l) :: L)
  | .v x s, e, W => e = .returned x ∧ Cx E B w0 W s H L
  | .nb t b s, e, W => ∃ ao cap, e = .returned (.tuple #[nv t.op t.s t.n ao t.L.length cap, .bool b]) ∧ Cx E B w0 W s H ((ao, cap, t) :: L)
def oN : Option (Tr × List Tok) → Out
  | none => .stop
  | some (t, r) => .nd t (.p r)
def oL : Option (List Tr × List Tok) → Out
  | none => .stop
  | some (t, r) => .ls t (.p r)
def oS : Option (List UInt8 × List Tok) → Out
  | none => .stop
  | some (t, r) => .v (.string ⟨t.toArray⟩) (.p r)
def oI : Option (Int × List Tok) → Out
  | none => .stop
  | some (t, r) => .v (.int .i64 t) (.p r)
def oU : Option (List Tok) → Out
  | none => .stop
  | some r => .v (.tuple #[]) (.p r)
section
variable {E : Env} {B : Nat} {w0 w : World} {H : List Bx} {L : List Tn} {f : Nat} {args : Array Value} {R : Ending → World → Prop}
theorem useN {o : Option (Tr × List Tok)} (h : Calls Tryz.prog f args w ((oN o).P E B w0 H L)) (h0 : o = none → ∀ W, Fr w0 W (fun i => i = E.b) → R (.panicked stopP) W)
    (h1 : ∀ t r, o = some (t, r) → ∀ W ao cap, Cx E B w0 W (.p r) H ((ao, cap, t) :: L) → R (.returned (nv t.op t.s t.n ao t.L.length cap)) W) : Calls Tryz.prog f args w R := by
  refine h.mono fun e W hp => ?_
  rcases o with _ | ⟨t, r⟩
  · obtain ⟨rfl, hf⟩ := hp; exact h0 rfl W hf
  · obtain ⟨ao, cap, rfl, hc⟩ := hp; exact h1 t r rfl W ao cap hc
theorem useL {o : Option (List Tr × List Tok)} (h : Calls Tryz.prog f args w ((oL o).P E B w0 H L)) (h0 : o = none → ∀ W, Fr w0 W (fun i => i = E.b) → R (.panicked stopP) W)
    (h1 : ∀ t r, o = some (t, r) → ∀ W ao cap, Cx E B w0 W (.p r) H ((ao, cap, ls t) :: L) → R (.returned (.slice ao t.length cap)) W) : Calls Tryz.prog f args w R := by
  refine h.mono fun e W hp => ?_
  rcases o with _ | ⟨t, r⟩
  · obtain ⟨rfl, hf⟩ := hp; exact h0 rfl W hf
  · obtain ⟨ao, cap, rfl, hc⟩ := hp; exact h1 t r rfl W ao cap hc
theorem useS {o : Option (List UInt8 × List Tok)} (h : Calls Tryz.prog f args w ((oS o).P E B w0 H L)) (h0 : o = none → ∀ W, Fr w0 W (fun i => i = E.b) → R (.panicked stopP) W)
    (h1 : ∀ t r, o = some (t, r) → ∀ W, Cx E B w0 W (.p r) H L → R (.returned (.string ⟨t.toArray⟩)) W) : Calls Tryz.prog f args w R := by
  refine h.mono fun e W hp => ?_
  rcases o with _ | ⟨t, r⟩
  · obtain ⟨rfl, hf⟩ := hp; exact h0 rfl W hf
  · obtain ⟨rfl, hc⟩ := hp; exact h1 t r rfl W hc
theorem useI {o : Option (Int × List Tok)} (h : Calls Tryz.prog f args w ((oI o).P E B w0 H L)) (h0 : o = none → ∀ W, Fr w0 W (fun i => i = E.b) → R (.panicked stopP) W)
    (h1 : ∀ t r, o = some (t, r) → ∀ W, Cx E B w0 W (.p r) H L → R (.returned (.int .i64 t)) W) : Calls Tryz.prog f args w R := by
  refine h.mono fun e W hp => ?_
  rcases o with _ | ⟨t, r⟩
  · obtain ⟨rfl, hf⟩ := hp; exact h0 rfl W hf
  · obtain ⟨rfl, hc⟩ := hp; exact h1 t r rfl W hc
theorem useU {o : Option (List Tok)} (h : Calls Tryz.prog f args w ((oU o).P E B w0 H L)) (h0 : o = none → ∀ W, Fr w0 W (fun i => i = E.b) → R (.panicked stopP) W)
    (h1 : ∀ r, o = some r → ∀ W, Cx E B w0 W (.p r) H L → R (.returned (.tuple #[])) W) : Calls Tryz.prog f args w R := by
  refine h.mono fun e W hp => ?_
  rcases o with _ | r
  · obtain ⟨rfl, hf⟩ := hp; exact h0 rfl W hf
  · obtain ⟨rfl, hc⟩ := hp; exact h1 r rfl W hc
theorem useV {x : Value} {s : Stt} (h : Calls Tryz.prog f args w ((Out.v x s).P E B w0 H L)) (h1 : ∀ W, Cx E B w0 W s H L → R (.returned x) W) : Calls Tryz.prog f args w R := by
  refine h.mono fun e W hp => ?_
  obtain ⟨rfl, hc⟩ := hp; exact h1 W hc
theorem useB {b : Bool} {s : Stt} (h : Calls Tryz.prog f args w ((Out.v (.bool b) s).P E B w0 H L)) (ht : b = true → ∀ W, Cx E B w0 W s H L → R (.returned (.bool true)) W) (hf : b = false → ∀ W, Cx E B w0 W s H L → R (.returned (.bool false)) W) : Calls Tryz.prog f args w R := by
  refine h.mono fun e W hp => ?_
  obtain ⟨rfl, hc⟩ := hp
  cases b with
  | true => exact ht rfl W hc
  | false => exact hf rfl W hc
theorem endN {o : Option (Tr × List Tok)} {W : World} {t : Tr} {r : List Tok} (h : Hid (some (t, r) = o)) {ao : Option Addr} {cap : Nat} (hc : Cx E B w0 W (.p r) H ((ao, cap, t) :: L)) : (oN o).P E B w0 H L (.returned (nv t.op t.s t.n ao t.L.length cap)) W := by
  rw [← h.out]; exact ⟨ao, cap, rfl, hc⟩
theorem stopN {o : Option (Tr × List Tok)} {W : World} (h : Hid (none = o)) (hf : Fr w0 W (fun i => i = E.b)) : (oN o).P E B w0 H L (.panicked stopP) W := by
  rw [← h.out]; exact ⟨rfl, hf⟩
theorem endL {o : Option (List Tr × List Tok)} {W : World} {t : List Tr} {r : List Tok} (h : Hid (some (t, r) = o)) {ao : Option Addr} {cap : Nat} (hc : Cx E B w0 W (.p r) H ((ao, cap, ls t) :: L)) : (oL o).P E B w0 H L (.returned (.slice ao t.length cap)) W := by
  rw [← h.out]; exact ⟨ao, cap, rfl, hc⟩
theorem stopL {o : Option (List Tr × List Tok)} {W : World} (h : Hid (none = o)) (hf : Fr w0 W (fun i => i = E.b)) : (oL o).P E B w0 H L (.panicked stopP) W := by
  rw [← h.out]; exact ⟨rfl, hf⟩
theorem endS {o : Option (List UInt8 × List Tok)} {W : World} {t : List UInt8} {r : List Tok} (h : Hid (some (t, r) = o)) (hc : Cx E B w0 W (.p r) H L) : (oS o).P E B w0 H L (.returned (.string ⟨t.toArray⟩)) W := by
  rw [← h.out]; exact ⟨rfl, hc⟩
theorem stopS {o : Option (List UInt8 × List Tok)} {W : World} (h : Hid (none = o)) (hf : Fr w0 W (fun i => i = E.b)) : (oS o).P E B w0 H L (.panicked stopP) W := by
  rw [← h.out]; exact ⟨rfl, hf⟩
theorem endI {o : Option (Int × List Tok)} {W : World} {t : Int} {r : List Tok} (h : Hid (some (t, r) = o)) (hc : Cx E B w0 W (.p r) H L) : (oI o).P E B w0 H L (.returned (.int .i64 t)) W := by
  rw [← h.out]; exact ⟨rfl, hc⟩
theorem stopI {o : Option (Int × List Tok)} {W : World} (h : Hid (none = o)) (hf : Fr w0 W (fun i => i = E.b)) : (oI o).P E B w0 H L (.panicked stopP) W := by
  rw [← h.out]; exact ⟨rfl, hf⟩
theorem endU {o : Option (List Tok)} {W : World} {r : List Tok} (h : Hid (some r = o)) (hc : Cx E B w0 W (.p r) H L) : (oU o).P E B w0 H L (.returned (.tuple #[])) W := by
  rw [← h.out]; exact ⟨rfl, hc⟩
theorem stopU {o : Option (List Tok)} {W : World} (h : Hid (none = o)) (hf : Fr w0 W (fun i => i = E.b)) : (oU o).P E B w0 H L (.panicked stopP) W := by
  rw [← h.out]; exact ⟨rfl, hf⟩
theorem endV {x : Value} {s : Stt} {W : World} (hc : Cx E B w0 W s H L) : (Out.v x s).P E B w0 H L (.returned x) W := ⟨rfl, hc⟩
end
structure PC (E : Env) (w : World) (i : Nat) (ao : Option Addr) (cap : Nat) : Prop where
  v : E.v = .slice ao E.l.length cap
  c0 : w.cell? ⟨E.b, 0, none⟩ = some (.slice ao E.l.length cap)
  c1 : w.cell? ⟨E.b, 1, none⟩ = some (.int .i64 i)
  fz : w.frozen? ⟨E.b, 1, none⟩ = false
  cap : E.l.length ≤ cap
theorem Cx.pc {E : Env} {B : Nat} {w0 w : World} {ts : List Tok} {H : List Bx} {L : List Tn} (h : Cx E B w0 w (.p ts) H L) : ∃ i ao cap, i ≤ E.l.length ∧ E.l.drop i = ts ∧ PC E w i ao cap := by
  obtain ⟨i, hi, hts, hh, hr⟩ := h.st
  obtain ⟨ao, cap, hv, hc, _⟩ := hr.form
  refine ⟨i, ao, cap, hi, hts, hv, ?_, ?_, frozen_row hh 1, hc⟩
  · rw [cell_of_row w _ 0 _ _ _ hh, ← hv]; rfl
  · rw [cell_of_row w _ 1 _ _ _ hh]; rfl
theorem Cx.tok {E : Env} {B : Nat} {w0 w : World} {ts : List Tok} {H : List Bx} {L : List Tn} {s : Stt} (h : Cx E B w0 w s H L) {j : Nat} (hj : j < E.l.length) : ∃ g cap, E.v = .slice (some ⟨g, 0, none⟩) E.l.length cap ∧ E.l.length ≤ cap ∧ w.cell? ⟨g, j * 4, none⟩ = some (.int .i64 E.l[j].k) ∧ w.cell? ⟨g, j * 4 + 1, none⟩ = some (.string ⟨E.l[j].s.toArray⟩) ∧ w.cell? ⟨g, j * 4 + 2, none⟩ = some (.int .i64 E.l[j].n) ∧ w.cell? ⟨g, j * 4 + 3, none⟩ = some (.int .i64 E.l[j].at_) := by
  have hr := h.st.row
  obtain ⟨g, cap, hv, hc, _, _⟩ := hr.at_ (by omega)
  rw [hv] at hr
  exact ⟨g, cap, hv, hc, hr.cell (tokC_len _) j hj 0 (by decide), hr.cell (tokC_len _) j hj 1 (by decide), hr.cell (tokC_len _) j hj 2 (by decide), hr.cell (tokC_len _) j hj 3 (by decide)⟩
theorem Cx.move {E : Env} {B : Nat} {w0 w : World} {ts : List Tok} {H : List Bx} {L : List Tn} (h : Cx E B w0 w (.p ts) H L) {j : Nat} (hj : j ≤ E.l.length) : Cx E B w0 (w.setCell ⟨E.b, 1, none⟩ (.int .i64 j)) (.p (E.l.drop j)) H L := by
  have hlo := h.lo
  have other : ∀ k, k ≠ E.b → (w.setCell ⟨E.b, 1, none⟩ (.int .i64 j)).heap[k]? = w.heap[k]? := fun k hk => Below.heap_setCell _ _ _ _ hk
  have hne : ∀ x ∈ H, x.1 ≠ E.b := fun x hx => by have := (h.hl x hx).1; omega
  refine ⟨h.ok, ?_, h.mv.trans (fr_set w E.b 1 _) (fun i hi => Or.inl hi), h.lo, h.bl, h.hB, fun x hx => ⟨(h.hl x hx).1, (other _ (hne x hx)).trans (h.hl x hx).2⟩, h.hn, h.nd, fun x hx => (h.tv x hx).keep fun k hk _ => ⟨hk, other k (by have := h.bl; omega)⟩⟩
  obtain ⟨i, hi, hts, hh, hr⟩ := h.st
  refine ⟨j, hj, rfl, ?_, hr.of_block (fun k hk => other k (fun e => h.ok.own (e ▸ hk)))⟩
  rw [heap_setCell_same w E.b 1 _ _ _ hh]
  rfl
theorem drop_at {l ts : List Tok} {i k : Nat} (h : l.drop i = ts) (hk : i + k < l.length) : ts.drop k = l[i + k] :: l.drop (i + k + 1) := by
  rw [← h, List.drop_drop, List.drop_eq_getElem_cons hk]
theorem drop_no {l ts : List Tok} {i k : Nat} (h : l.drop i = ts) (hk : l.length ≤ i + k) : ts.drop k = [] := by
  rw [← h, List.drop_drop, List.drop_eq_nil_of_le hk]
theorem q_stands0 {E : Env} {B : Nat} {w0 w : World} {ts : List Tok} {H : List Bx} {L : List Tn} (hC : Cx E B w0 w (.p ts) H L) (k : Nat) (hk : k ≤ 1000) (kd : Int) (s : ByteArray) :
    Calls Tryz.prog 79 #[.pointer (some ⟨E.b, 0, none⟩), .int .i64 k, .int .i64 kd, .string s] w fun e w' => e = .returned (.bool (sdB k kd s.data.toList ts)) ∧ w' = w := by
  obtain ⟨i, ao, cap, hi, hts, hpc⟩ := hC.pc
  have h6 := hC.ok.len
  obtain ⟨hv, c0, c1, fz, hcap⟩ := hpc
  by_cases hlt : i + k < E.l.length
  · obtain ⟨g, cap', hv', hcap', t0, t1, t2, t3⟩ := hC.tok (ts := ts) hlt
    have hd := drop_at hts hlt
    rw [hv] at hv'
    cases hv'
    have hB : sdB k kd s.data.toList ts = (E.l[i + k].k == kd && E.l[i + k].s == s.data.toList) := by unfold sdB; rw [hd]
    rw [hB]
    have hq : (E.l[i + k].s == s.toList) = (E.l[i + k].s == s.data.toList) := by rw [Lib.toList_data]
    generalize E.l[i + k] = t at *
    have tlt : (i : Int) + (k : Int) < (E.l.length : Int) := by omega
    have tlt0 : (0 : Int) ≤ (i : Int) + (k : Int) := by omega
    have hw : ((i + k : Nat) : Int) = (i : Int) + (k : Int) := by omega
    have hik : (i : Int) + (k : Int) ≤ 5000 := by omega
    clear hC hd hB hts hlt hv
    cases hkd : t.k == kd
    · go_enter Tryz.func79, Tryz.ntmps79
      go_wp2_with fail
      go_ret
      exact ⟨rfl, rfl⟩
    · rw [Bool.true_and]
      generalize (t.s == s.data.toList) = bq at *
      go_enter Tryz.func79, Tryz.ntmps79
      go_wp2_with fail
      go_ret
      exact ⟨rfl, rfl⟩
  · have hB : sdB k kd s.data.toList ts = false := by unfold sdB; rw [drop_no hts (by omega)]
    rw [hB]
    have tlt : ¬ (i : Int) + (k : Int) < (E.l.length : Int) := by omega
    have hik : (i : Int) + (k : Int) ≤ 5000 := by omega
    have tlt0 : (0 : Int) ≤ (i : Int) + (k : Int) := by omega
    clear hC hB hts hlt hv
    go_enter Tryz.func79, Tryz.ntmps79
    go_wp2_with fail
    go_ret
    exact ⟨rfl, rfl⟩
theorem q_stands {E : Env} {B : Nat} {w0 w : World} {ts : List Tok} {H : List Bx} {L : List Tn} (hC : Cx E B w0 w (.p ts) H L) (k : Nat) (hk : k ≤ 1000) (kd : Int) (s : List UInt8) :
    Calls Tryz.prog 79 #[.pointer (some ⟨E.b, 0, none⟩), .int .i64 k, .int .i64 kd, .string ⟨s.toArray⟩] w ((Out.v (.bool (sdB k kd s ts)) (.p ts)).P E B w0 H L) := by
  refine (q_stands0 hC k hk kd ⟨s.toArray⟩).mono ?_
  rintro e W ⟨rfl, rfl⟩
  exact endV hC
theorem tkB_take : ∀ (ws : List (List UInt8)) (ts : List Tok) (i : Nat) (h : i < ws.length), tkB (ws.take (i + 1)) ts = (tkB (ws.take i) ts && sdB i 0 ws[i] ts)
  | [], _, _, h => by simp at h
  | w :: ws, [], i, h => by
    have e : sdB i 0 (w :: ws)[i] [] = false := by simp [sdB]
    rw [e, Bool.and_false]
    simp [tkB]
  | w :: ws, t :: ts, 0, h => by
    simp [tkB, sdB]
  | w :: ws, t :: ts, i + 1, h => by
    have ih := tkB_take ws ts i (by simpa using h)
    simp only [List.take_succ_cons, tkB, ih, List.getElem_cons_succ, sdB, List.drop_succ_cons, Bool.and_assoc]
theorem tkB_of_take {ws : List (List UInt8)} {ts : List Tok} (i : Nat) (h : tkB (ws.take i) ts = false) : tkB ws ts = false := by
  by_cases hi : i < ws.length
  · have : ∀ n, i + n ≤ ws.length → tkB (ws.take (i + n)) ts = false := by
      intro n
      induction n with
      | zero => intro _; exact h
      | succ n ih =>
        intro hn
        rw [show i + (n + 1) = (i + n) + 1 by omega, tkB_take ws ts (i + n) (by omega), ih (by omega), Bool.false_and]
    have := this (ws.length - i) (by omega)
    rwa [show i + (ws.length - i) = ws.length by omega, List.take_length] at this
  · rwa [List.take_of_length_le (by omega)] at h
theorem q_took {E : Env} {B : Nat} {w0 w : World} {ts : List Tok} {H : List Bx} {L : List Tn} (ws : List ByteArray) {kb : Nat} (hC : Cx E B w0 w (.p ts) ((kb, ws.map Value.string, 9) :: H) L) (hn : ws.length ≤ 100) :
    Calls Tryz.prog 50 #[.pointer (some ⟨E.b, 0, none⟩), .slice (some ⟨kb, 0, none⟩) ws.length ws.length] w ((Out.v (.bool (tkB (ws.map (·.data.toList)) ts)) (.p (tkR (ws.map (·.data.toList)) ts))).P E B w0 H L) := by
  have hst := fun k hk s => q_stands0 hC k hk 0 s
  have HC : Hid (Cx E B w0 w (.p ts) H L) := hC.less (List.sublist_cons_self _ _) (fun x hx => hx)
  have hcell : ∀ i (h : i < ws.length), w.cell? ⟨kb, i, none⟩ = some (.string ws[i]) := fun i h => hC.cell 0 rfl i (by simp [h])
  obtain ⟨i0, ao, cap, hi0, hts, hpc⟩ := hC.pc
  obtain ⟨hv, c0, c1, fz, hcap⟩ := hpc
  have h6 := hC.ok.len
  obtain ⟨wl, hwl⟩ : ∃ wl : List (List UInt8), wl = ws.map (·.data.toList) := ⟨_, rfl⟩
  have HW := hidk hwl
  have hwn : wl.length = ws.length := by rw [hwl]; simp
  have HWN := hidk hwn
  rw [← hwl]
  have HT := hidk hts
  clear hC hv c0 hwl hwn hts
  go_enter Tryz.func50, Tryz.ntmps50
  go_wp2_with fail
  go_loop [9] (fun x => ∃ i : Nat, i ≤ ws.length ∧ x = .int .i64 i ∧ Hid (tkB (wl.take i) ts = true)) (fun x => ws.length - (intOf x).toNat)
  case atStart => exact ⟨0, Nat.zero_le _, rfl, (by simp [tkB] : tkB (wl.take 0) ts = true)⟩
  case round =>
    obtain ⟨i, hi, rfl, HB⟩ := hrel
    by_cases hlt : i < ws.length
    · have hc := hcell i hlt
      have hs := hst i (by omega) ws[i]
      have hwi : wl[i]'(by rw [HWN.out]; exact hlt) = ws[i].data.toList := by simp [HW.out]
      have htk := tkB_take wl ts i (by rw [HWN.out]; exact hlt)
      rw [HB.out, Bool.true_and, hwi] at htk
      generalize ws[i] = wd at *
      have tlt : (i : Int) < (ws.length : Int) := by omega
      have tge : (0 : Int) ≤ (i : Int) := by omega
      cases hq : sdB i 0 wd.data.toList ts with
      | true =>
        rw [hq] at hs htk
        have HK := hidk htk
        clear htk hq hcell hst
        go_wp2_with (go_at_call 79; refine hs.mono ?_; rintro e w1 ⟨rfl, hw1⟩; obtain rfl := hw1.symm)
        go_round
        case rel => exact ⟨i + 1, by omega, by go_num, HK⟩
        case measure => simp [intOf]; omega
      | false =>
        rw [hq] at hs htk
        have hf := tkB_of_take _ htk
        have hr : tkR wl ts = ts := by unfold tkR; rw [hf]; rfl
        have HG : Hid (∀ W, Cx E B w0 W (.p ts) H L → (Out.v (.bool (tkB wl ts)) (.p (tkR wl ts))).P E B w0 H L (.returned (.bool false)) W) := fun W h => by rw [hf, hr]; exact endV h
        clear htk hq hf hr hcell hst
        go_wp2_with (go_at_call 79; refine hs.mono ?_; rintro e w1 ⟨rfl, hw1⟩; obtain rfl := hw1.symm)
        go_ret
        exact HG.out _ HC.out
    · obtain rfl : i = ws.length := by omega
      have hb : tkB wl ts = true := by
        have := HB.out
        rwa [List.take_of_length_le (by rw [HWN.out]; exact Nat.le_refl _)] at this
      have hlen := tkB_len _ _ hb
      rw [HWN.out, ← HT.out, List.length_drop] at hlen
      have hr : tkR wl ts = E.l.drop (i0 + ws.length) := by
        unfold tkR
        rw [if_pos hb, HWN.out, ← HT.out, List.drop_drop]
      have HG : Hid (∀ W, Cx E B w0 W (.p (E.l.drop (i0 + ws.length))) H L → (Out.v (.bool (tkB wl ts)) (.p (tkR wl ts))).P E B w0 H L (.returned (.bool true)) W) := fun W h => by rw [hb, hr]; exact endV h
      have HM : Hid (Cx E B w0 (w.setCell ⟨E.b, 1, none⟩ (.int .i64 ((i0 : Int) + (ws.length : Int)))) (.p (E.l.drop (i0 + ws.length))) H L) := by
        have := HC.out.move (j := i0 + ws.length) (by omega)
        rw [show ((i0 + ws.length : Nat) : Int) = (i0 : Int) + (ws.length : Int) by omega] at this
        exact this
      have tle : (i0 : Int) + (ws.length : Int) ≤ 10000 := by omega
      clear hb hr hlen hcell hst HB HW HWN HT HC
      go_wp2_with fail
      go_ret
      exact HG.out _ HM.out
structure KK (p : Prop) : Prop where
  out : p
theorem pS : (∀ {α : Type} {a b : α} {l : List α}, (a :: l).set 0 b = b :: l) ∧ ∀ {α : Type} {a b : α} {n : Nat} {l : List α}, (a :: l).set (n + 1) b = a :: l.set n b := ⟨List.set_cons_zero .., List.set_cons_succ ..⟩
theorem pP : (∀ {a : Act} {d : Nat} {v : Value}, a.put (some d) v = { a with tmps := a.tmps.setIfInBounds d v }) ∧ (∀ {a : Act} {v : Value}, a.put none v = a) ∧ (∀ {α : Type} {l : List α} {i : Nat} {a : α}, l.toArray.setIfInBounds i a = (l.set i a).toArray) ∧ (∀ {α : Type} {a b : α} {l : List α}, (a :: l).set 0 b = b :: l) ∧ ∀ {α : Type} {a b : α} {n : Nat} {l : List α}, (a :: l).set (n + 1) b = a :: l.set n b := ⟨rfl, rfl, List.setIfInBounds_toArray .., pS⟩
theorem pQ : (∀ {α : Type} {l : List α} {i : Nat} (h : i < l.toArray.size), l.toArray[i] = l[i]'(by simpa using h)) ∧ (∀ {α : Type} {a : α} {l : List α} (h : 0 < (a :: l).length), (a :: l)[0] = a) ∧ (∀ {α : Type} {a : α} {l : List α} {i : Nat} (h : i + 1 < (a :: l).length), (a :: l)[i + 1] = l[i]'(Nat.lt_of_succ_lt_succ h)) ∧ (∀ {a : Act} {d : Nat} {v : Value}, a.put (some d) v = { a with tmps := a.tmps.setIfInBounds d v }) ∧ (∀ {a : Act} {v : Value}, a.put none v = a) ∧ (∀ {α : Type} {l : List α} {i : Nat} {a : α}, l.toArray.setIfInBounds i a = (l.set i a).toArray) ∧ (∀ {α : Type} {a b : α} {l : List α}, (a :: l).set 0 b = b :: l) ∧ ∀ {α : Type} {a b : α} {n : Nat} {l : List α}, (a :: l).set (n + 1) b = a :: l.set n b := ⟨fun h => List.getElem_toArray .., fun h => rfl, fun h => rfl, pP⟩
theorem pB : (∀ {b : Bool}, (b && true) = b) ∧ (∀ {b : Bool}, (true && b) = b) ∧ (!true) = false ∧ (!false) = true ∧ (∀ {b : Bool}, (b && false) = false) ∧ (∀ {b : Bool}, (false && b) = false) ∧ (false = true) = False := ⟨fun {b} => Bool.and_true b, fun {b} => Bool.true_and b, rfl, rfl, fun {b} => Bool.and_false b, fun {b} => Bool.false_and b, by simp⟩
theorem mSub {α : Type} {l l' : List α} (h : l.Sublist l' := by (repeat (first | exact List.Sublist.refl _ | apply List.Sublist.cons)); done) : l.Sublist l' := h
theorem mMem {α : Type} {x : α} {l : List α} (h : x ∈ l := by (repeat (first | exact List.mem_cons_self | apply List.mem_cons_of_mem)); done) : x ∈ l := h
theorem mL {α : Type} {l l' : List α} (h : ∀ y ∈ l, y ∈ l' := by intro y hy; (repeat (first | exact hy | apply List.mem_cons_of_mem)); done) : ∀ y ∈ l, y ∈ l' := h
theorem mS {α : Type} {l l' l2 : List α} (hS : ∀ y ∈ l, y ∈ l') (h : ∀ y ∈ l', y ∈ l2 := by intro y hy; (repeat (first | exact hy | apply List.mem_cons_of_mem)); done) : ∀ y ∈ l, y ∈ l2 := fun y hy => h y (hS y hy)
section
variable {P : Program} {ops : Array Oper} {Q : Exit → Act → World → Prop} {md : Region.Mode} {S : World → Prop}
theorem qk (i : Nat) {oi : Oper} {v : Value} {fuel : Nat} {listed : Array Bool} {a : Act} {w : World} (h : wpAnyH P md ops Q S fuel (listed.setIfInBounds i true) (a.put oi.dst v) w) (hi : ops[i]? = some oi := by rfl) (hs : Region.noSelect ops = true := by kernel_rfl) (hf : Region.free md ops listed i = true := by kernel_rfl) (hr : (Region.ready md ops listed).contains i = true := by kernel_rfl) (hQ : ∀ c a w, Q (.panic c) (a.put oi.dst v) w → Q (.panic c) a w := by exact fun _ _ _ h => h) (hy : YieldsIf P ops S oi v a := by exact Or.inl ⟨by rfl, by intro w hSw; go_simp; (try rfl)⟩) (hS : S w := by assumption) : wpAnyH P md ops Q S (fuel + 1) listed a w :=
  wpAnyH_take hi hs hf hr hQ hy hS h
theorem ry (rs : List Nat) {fuel : Nat} {listed : Array Bool} {a : Act} {w : World} (h : AllReadyH P md ops Q S fuel listed a w rs) (hr : Region.ready md ops listed = rs := by kernel_rfl) (hne : rs ≠ [] := by simp) : wpAnyH P md ops Q S (fuel + 1) listed a w :=
  wpAnyH_ready (rs := rs) hr hne h
theorem dn {listed : Array Bool} {a : Act} {w : World} (h : Q .normal a w) (fuel : Nat) (hr : Region.ready md ops listed = [] := by kernel_rfl) : wpAnyH P md ops Q S fuel listed a w := wpAnyH_done hr h fuel
end
section
variable {P : Program} {ops : Array Oper} {Q : Exit → Act → World → Prop} {md : Region.Mode} {S : World → Prop}
theorem rd1 {fuel : Nat} {listed : Array Bool} {a : Act} {w : World} {i : Nat} {o : Oper} (h : ∀ K' : Act → World → Prop, Shut (∀ a w, S w → (S w → wpAnyH P md ops Q S fuel (listed.setIfInBounds i true) a w) → K' a w) → if Region.wanted o (yielded ops a.tmps) = true then Oper.wp P o a w K' Q else K' (a.put o.dst undef) w) (ho : ops[i]? = some o := by rfl) : AllReadyH P md ops Q S fuel listed a w [i] := AllReadyH.cons ho h AllReadyH.nil
end
theorem wsN {G G' : Prop} (k : G') (h : KK G' → G := by intro kk; (first | refine wp_storeN hC 0 (by rfl) (by rfl) (by rfl) (by rfl) (by rfl) (by rfl) (by rfl) (by rfl) ?_ | refine wp_storeN hC 1 (by rfl) (by rfl) (by rfl) (by rfl) (by rfl) (by rfl) (by rfl) (by rfl) ?_ | refine wp_storeN hC 2 (by rfl) (by rfl) (by rfl) (by rfl) (by rfl) (by rfl) (by rfl) (by rfl) ?_ | refine wp_storeN hC 3 (by rfl) (by rfl) (by rfl) (by rfl) (by rfl) (by rfl) (by rfl) (by rfl) ?_ | refine wp_storeN hC 4 (by rfl) (by rfl) (by rfl) (by rfl) (by rfl) (by rfl) (by rfl) (by rfl) ?_ | refine wp_storeN hC 5 (by rfl) (by rfl) (by rfl) (by rfl) (by rfl) (by rfl) (by rfl) (by rfl) ?_ | refine wp_storeN hC 6 (by rfl) (by rfl) (by rfl) (by rfl) (by rfl) (by rfl) (by rfl) (by rfl) ?_); intro W9 hC9; simp only [pS] at hC9; revert W9 hC9; exact kk.out) : G := h ⟨k⟩
theorem bL {G G' : Prop} (k : G') (h : KK G' → G := by intro kk; guard_target = wpList _ _ _ _ _ _; first | (refine hC.rlb ?_; (try simp only [pP]); exact kk.out) | (refine hC.lN ?_; (try simp only [pP]); exact kk.out) | (refine hC.l1 ?_; (try simp only [pP]); exact kk.out)) : G := h ⟨k⟩
theorem bA {G G' : Prop} (k : G') (h : KK G' → G := by intro kk; guard_target = wpList _ _ _ _ _ _; first | (refine hC.aN ?_; intro W9 k9 hC9; (try simp only [pP]); revert W9 k9 hC9; exact kk.out) | (refine hC.aS ?_; intro W9 k9 hC9; (try simp only [pP]); revert W9 k9 hC9; exact kk.out) | (first | refine hC.B1 ?_ | refine hC.B2 ?_ | refine hC.B3 ?_ | refine hC.B5 ?_ | refine hC.S1 ?_ | refine hC.S2 ?_ | refine hC.S3 ?_ | refine hC.S4 ?_ | refine hC.S6 ?_); intro W9 k9 hC9; (try simp only [pP]); revert W9 k9 hC9; exact kk.out) : G := h ⟨k⟩
theorem bS {G G' : Prop} (k : G') (h : KK G' → G := by intro kk; guard_target = wpList _ _ _ _ _ _; (first | refine hC.sN 0 ?_ | refine hC.sN 1 ?_ | refine hC.sN 2 ?_ | refine hC.sN 3 ?_ | refine hC.sN 4 ?_ | refine hC.sN 5 ?_ | refine hC.sN 6 ?_ | refine hC.sN 7 ?_ | refine hC.sN 8 ?_ | refine hC.sL 0 ?_ | refine hC.sL 1 ?_ | refine hC.sL 2 ?_ | refine hC.sL 3 ?_ | refine hC.sL 4 ?_ | refine hC.sL 5 ?_ | refine hC.sL 6 ?_ | refine hC.sL 7 ?_ | refine hC.sL 8 ?_); intro W9 hC9; simp only [pS] at hC9; (try simp only [pP]); revert W9 hC9; exact kk.out) : G := h ⟨k⟩
theorem eM1 {G : Prop} (h : G := by (refine hC.rc ?_; first | (refine endN HO (hC.fin ?_ ?_ ?_); (repeat (first | exact List.Sublist.refl _ | apply List.Sublist.cons)); (repeat (first | exact List.mem_cons_self | apply List.mem_cons_of_mem)); intro y hy; (repeat (first | exact hy | apply List.mem_cons_of_mem)); done) | (refine endN HO ((hC.leaf _ _ _).fin ?_ (.head _) ?_); (repeat (first | exact List.Sublist.refl _ | apply List.Sublist.cons)); intro y hy; (repeat (first | exact hy | apply List.mem_cons_of_mem)); done) | (refine endN HO ((hC.tree1 _ _ _ (.head _)).fin ?_ (.head _) ?_); (repeat (first | exact List.Sublist.refl _ | apply List.Sublist.cons)); intro y hy; (repeat (first | exact hy | apply List.mem_cons_of_mem)); done) | (refine endN HO ((hC.tree2 _ _ _ (.tail _ (.head _)) (.head _)).fin ?_ (.head _) ?_); (repeat (first | exact List.Sublist.refl _ | apply List.Sublist.cons)); intro y hy; (repeat (first | exact hy | apply List.mem_cons_of_mem)); done))) : G := h
theorem eM2 {G : Prop} (h : G := by (refine hC.rc ?_; first | (refine endN HO (hC.fin ?_ ?_ ?_); (repeat (first | exact List.Sublist.refl _ | apply List.Sublist.cons)); (repeat (first | exact List.mem_cons_self | apply List.mem_cons_of_mem)); intro y hy; (repeat (first | exact hy | apply List.mem_cons_of_mem)); done) | (refine endN HO ((hC.leaf _ _ _).fin ?_ (.head _) ?_); (repeat (first | exact List.Sublist.refl _ | apply List.Sublist.cons)); intro y hy; (repeat (first | exact hy | apply List.mem_cons_of_mem)); done) | (refine endN HO ((hC.tree1 _ _ _ (.head _)).fin ?_ (.head _) ?_); (repeat (first | exact List.Sublist.refl _ | apply List.Sublist.cons)); intro y hy; (repeat (first | exact hy | apply List.mem_cons_of_mem)); done) | (refine endN HO ((hC.tree2 _ _ _ (.tail _ (.head _)) (.head _)).fin ?_ (.head _) ?_); (repeat (first | exact List.Sublist.refl _ | apply List.Sublist.cons)); intro y hy; (repeat (first | exact hy | apply List.mem_cons_of_mem)); done) | (refine endN HO ((hC.root (t := ls _) (.head _) _ _ _).fin ?_ (.head _) ?_); (repeat (first | exact List.Sublist.refl _ | apply List.Sublist.cons)); intro y hy; (repeat (first | exact hy | apply List.mem_cons_of_mem)); done))) : G := h
theorem m0 {G G' : Prop} (k : G') (h : KK G' → G := by intro kk; first | (refine hC.sS 0 ?_; exact kk.out) | (refine hC.sS 1 ?_; exact kk.out) | (refine hC.sS 2 ?_; exact kk.out) | (refine hC.sS 3 ?_; exact kk.out) | (refine hC.sS 4 ?_; exact kk.out) | (refine hC.sS 5 ?_; exact kk.out) | (refine hC.sS 6 ?_; exact kk.out) | (refine hC.sS 7 ?_; exact kk.out) | (refine hC.sS 8 ?_; exact kk.out)) : G := h ⟨k⟩
theorem m1 {G G' : Prop} (k : G') (h : KK G' → G := by intro kk; first | (refine useDx (q_node1 _ _ hC (.head _)) ?_; exact kk.out) | (refine useDx (q_node1 _ _ hC (.tail _ (.head _))) ?_; exact kk.out) | (refine useDx (q_node1 _ _ hC (.tail _ (.tail _ (.head _)))) ?_; exact kk.out) | (refine useDx (q_node1 _ _ hC (.tail _ (.tail _ (.tail _ (.head _))))) ?_; exact kk.out)) : G := h ⟨k⟩
theorem m2 {G G' : Prop} (k : G') (h : KK G' → G := by intro kk; first | (refine useDx (q_node2 _ _ hC (.tail _ (.head _)) (.head _)) ?_; exact kk.out) | (refine useDx (q_node2 _ _ hC (.head _) (.tail _ (.head _))) ?_; exact kk.out) | (refine useDx (q_node2 _ _ hC (.tail _ (.tail _ (.head _))) (.head _)) ?_; exact kk.out) | (refine useDx (q_node2 _ _ hC (.tail _ (.tail _ (.head _))) (.tail _ (.head _))) ?_; exact kk.out) | (refine useDx (q_node2 _ _ hC (.head _) (.tail _ (.tail _ (.head _)))) ?_; exact kk.out) | (refine useDx (q_node2 _ _ hC (.tail _ (.head _)) (.tail _ (.tail _ (.head _)))) ?_; exact kk.out) | (refine useDx (q_node2 _ _ hC (.tail _ (.tail _ (.tail _ (.head _)))) (.head _)) ?_; exact kk.out) | (refine useDx (q_node2 _ _ hC (.tail _ (.tail _ (.tail _ (.head _)))) (.tail _ (.head _))) ?_; exact kk.out)) : G := h ⟨k⟩
theorem m3 {G G' : Prop} (k : G') (h : KK G' → G := by intro kk; first | (refine useDx (q_node3 _ _ hC (.tail _ (.tail _ (.head _))) (.tail _ (.head _)) (.head _)) ?_; exact kk.out) | (refine useDx (q_node3 _ _ hC (.head _) (.tail _ (.tail _ (.head _))) (.tail _ (.head _))) ?_; exact kk.out)) : G := h ⟨k⟩
theorem m4 {G G' : Prop} (k : G') (h : KK G' → G := by intro kk; first | (refine useDx (q_nodeL _ _ hD (.head _) (by first | rfl | (simp; done))) ?_; exact kk.out) | (refine useDx (q_nodeL _ _ hD (.tail _ (.head _)) (by first | rfl | (simp; done))) ?_; exact kk.out) | (refine useDx (q_nodeL _ _ hD (.tail _ (.tail _ (.head _))) (by first | rfl | (simp; done))) ?_; exact kk.out) | (refine useDx (q_nodeL _ _ hD (.tail _ (.tail _ (.tail _ (.head _)))) (by first | rfl | (simp; done))) ?_; exact kk.out)) : G := h ⟨k⟩
theorem m5 {G G' : Prop} (k : G') (h : KK G' → G := by intro kk; first | (refine useRD (q_rnode1 _ _ _ hC (.head _)) ?_; exact kk.out) | (refine useRD (q_rnode1 _ _ _ hC (.tail _ (.head _))) ?_; exact kk.out) | (refine useRD (q_rnode1 _ _ _ hC (.tail _ (.tail _ (.head _)))) ?_; exact kk.out) | (refine useRD (q_rnode1 _ _ _ hC (.tail _ (.tail _ (.tail _ (.head _))))) ?_; exact kk.out) | (refine useRD (q_rnode1 _ _ _ hC (.tail _ (.tail _ (.tail _ (.tail _ (.head _)))))) ?_; exact kk.out)) : G := h ⟨k⟩
theorem m6 {G G' : Prop} (k : G') (h : KK G' → G := by intro kk; first | (refine useRD (q_rnode2 _ _ _ hC (.tail _ (.head _)) (.head _)) ?_; exact kk.out) | (refine useRD (q_rnode2 _ _ _ hC (.head _) (.tail _ (.head _))) ?_; exact kk.out) | (refine useRD (q_rnode2 _ _ _ hC (.tail _ (.tail _ (.head _))) (.head _)) ?_; exact kk.out) | (refine useRD (q_rnode2 _ _ _ hC (.tail _ (.tail _ (.head _))) (.tail _ (.head _))) ?_; exact kk.out) | (refine useRD (q_rnode2 _ _ _ hC (.head _) (.tail _ (.tail _ (.head _)))) ?_; exact kk.out) | (refine useRD (q_rnode2 _ _ _ hC (.tail _ (.head _)) (.tail _ (.tail _ (.head _)))) ?_; exact kk.out) | (refine useRD (q_rnode2 _ _ _ hC (.tail _ (.tail _ (.tail _ (.head _)))) (.head _)) ?_; exact kk.out) | (refine useRD (q_rnode2 _ _ _ hC (.head _) (.tail _ (.tail _ (.tail _ (.head _))))) ?_; exact kk.out) | (refine useRD (q_rnode2 _ _ _ hC (.tail _ (.tail _ (.tail _ (.head _)))) (.tail _ (.head _))) ?_; exact kk.out) | (refine useRD (q_rnode2 _ _ _ hC (.tail _ (.head _)) (.tail _ (.tail _ (.tail _ (.head _))))) ?_; exact kk.out) | (refine useRD (q_rnode2 _ _ _ hC (.tail _ (.tail _ (.tail _ (.head _)))) (.tail _ (.tail _ (.head _)))) ?_; exact kk.out) | (refine useRD (q_rnode2 _ _ _ hC (.tail _ (.tail _ (.head _))) (.tail _ (.tail _ (.tail _ (.head _))))) ?_; exact kk.out) | (refine useRD (q_rnode2 _ _ _ hC (.tail _ (.tail _ (.tail _ (.tail _ (.head _))))) (.head _)) ?_; exact kk.out) | (refine useRD (q_rnode2 _ _ _ hC (.head _) (.tail _ (.tail _ (.tail _ (.tail _ (.head _)))))) ?_; exact kk.out)) : G := h ⟨k⟩
theorem m7 {G G' : Prop} (k : G') (h : KK G' → G := by intro kk; first | (refine useRD (q_rnodeL _ _ _ hD (.head _) rfl (by first | omega | (simp; omega))) ?_; exact kk.out) | (refine useRD (q_rnodeL _ _ _ hD (.tail _ (.head _)) rfl (by first | omega | (simp; omega))) ?_; exact kk.out) | (refine useRD (q_rnodeL _ _ _ hD (.tail _ (.tail _ (.head _))) rfl (by first | omega | (simp; omega))) ?_; exact kk.out) | (refine useRD (q_rnodeL _ _ _ hD (.tail _ (.tail _ (.tail _ (.head _)))) rfl (by first | omega | (simp; omega))) ?_; exact kk.out) | (refine useRD (q_rnodeL _ _ _ hD (.tail _ (.tail _ (.tail _ (.tail _ (.head _))))) rfl (by first | omega | (simp; omega))) ?_; exact kk.out)) : G := h ⟨k⟩
theorem m8 {G G' : Prop} (k : G') (h : KK G' → G := by intro kk; first | (refine wl_app1 rfl hD (.head _) 1 (by rfl) (by rfl) (by rfl) (by first | rfl | (simp; done)) hR2 (hN2.mono mL) (by rfl) (by first | omega | (simp; omega)) ?_; exact kk.out) | (refine wl_app1 rfl hD (.head _) 2 (by rfl) (by rfl) (by rfl) (by first | rfl | (simp; done)) hR2 (hN2.mono mL) (by rfl) (by first | omega | (simp; omega)) ?_; exact kk.out)) : G := h ⟨k⟩
theorem m9 {G G' : Prop} (k : G') (h : KK G' → G := by intro kk; first | (refine wl_app1 rfl hD (.head _) 1 (by rfl) (by rfl) (by rfl) (by first | rfl | (simp; done)) hR.out (hN.out.mono mL) (by rfl) (by first | omega | (simp; omega)) ?_; exact kk.out)) : G := h ⟨k⟩
theorem m10 {G G' : Prop} (k : G') (h : KK G' → G := by intro kk; first | (refine useRD (q_rnode2 _ _ _ hC (.tail _ (.tail _ hM.out)) (.head _)) ?_; exact kk.out) | (refine useRD (q_rnode2 _ _ _ hC (.tail _ (.head _)) (.head _)) ?_; exact kk.out)) : G := h ⟨k⟩
theorem m11 {G G' : Prop} (k : G') (h : KK G' → G := by intro kk; first | (refine useRD (q_rnodeL _ _ _ hC hMi.out rfl (by omega)) ?_; exact kk.out) | (refine useRD (q_rnodeL _ _ _ hC (.tail _ hMf.out) rfl (by omega)) ?_; exact kk.out)) : G := h ⟨k⟩
theorem m12 {G G' : Prop} (k : G') (h : KK G' → G := by intro kk; first | (refine useRD (q_rnode5 _ _ _ hC (.tail _ (.head _)) (.head _) (.tail _ (.tail _ hMw.out)) (.tail _ (.tail _ hMg.out)) (.tail _ (.tail _ hMh.out))) ?_; exact kk.out)) : G := h ⟨k⟩
theorem m13 {G G' : Prop} (k : G') (h : KK G' → G := by intro kk; first | (refine wl_app1 rfl hD (.head _) 0 (by rfl) (by rfl) (by rfl) (by first | rfl | (simp; done)) hR2 (Rin.mono hN2 mL) (by rfl) (by first | omega | (simp; done) | (simp; omega)) ?_; exact kk.out) | (refine wl_app1 rfl hD (.head _) 0 (by rfl) (by rfl) (by rfl) (by first | rfl | (simp; done)) hR.out (Rin.mono hN.out mL) (by rfl) (by first | omega | (simp; done) | (simp; omega)) ?_; exact kk.out)) : G := h ⟨k⟩
theorem m14 {G G' : Prop} (k : G') (h : KK G' → G := by intro kk; first | (refine useRD (q_rnode3 _ _ _ hC (.tail _ (.tail _ hM.out)) (.tail _ (.head _)) (.head _)) ?_; exact kk.out)) : G := h ⟨k⟩
end Go.Proofs.YtaenpacfbheppaaGreatDoor
