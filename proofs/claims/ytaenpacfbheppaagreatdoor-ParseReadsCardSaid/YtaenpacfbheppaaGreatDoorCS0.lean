/- The document's reader: joined tables, step by step (pure). -/
import Derived.Test.YtaenpacfbheppaaGreatDoorCR6
set_option maxHeartbeats 16000000
set_option maxRecDepth 100000
set_option linter.unusedVariables false
set_option linter.unusedSimpArgs false
namespace Go.Proofs.YtaenpacfbheppaaGreatDoor
open Go.RowKit
def jtX (R : Rc) (f : Nat) (a : Tr) (op : List UInt8) (ts : List Tok) : Option (Tr × List Tok) := (needF [[106, 111, 105, 110]] ts).bind fun r => bd (jdF R r) fun x r2 => (needF [[111, 110]] r2).bind fun r3 => bd (R.expr r3) fun e r4 => tbD R f (nd op [] [a, x, e]) r4
def jt2X (R : Rc) (f : Nat) (a : Tr) (op : List UInt8) (ts : List Tok) : Option (Tr × List Tok) := jtX R f a op ts
def joX (R : Rc) (f : Nat) (a : Tr) (op : List UInt8) (ts : List Tok) : Option (Tr × List Tok) := ow [111, 117, 116, 101, 114] ts (fun r => jt2X R f a op r) (jt2X R f a op ts)
def lrX3 (R : Rc) (f : Nat) (a : Tr) (ts : List Tok) : Option (Tr × List Tok) := ow [105, 110, 110, 101, 114] ts (fun r => jt2X R f a [105, 110, 110, 101, 114] r) (if sdB 0 0 [106, 111, 105, 110] ts = true then jtX R f a [105, 110, 110, 101, 114] ts else some (a, ts))
def lrX2 (R : Rc) (f : Nat) (a : Tr) (ts : List Tok) : Option (Tr × List Tok) := ow [102, 117, 108, 108] ts (fun r => joX R f a [102, 117, 108, 108] r) (lrX3 R f a ts)
def lrX1 (R : Rc) (f : Nat) (a : Tr) (ts : List Tok) : Option (Tr × List Tok) := ow [114, 105, 103, 104, 116] ts (fun r => joX R f a [114, 105, 103, 104, 116] r) (lrX2 R f a ts)
def lrX0 (R : Rc) (f : Nat) (a : Tr) (ts : List Tok) : Option (Tr × List Tok) := ow [108, 101, 102, 116] ts (fun r => joX R f a [108, 101, 102, 116] r) (lrX1 R f a ts)
def tbX (R : Rc) (f : Nat) (a : Tr) (ts : List Tok) : Option (Tr × List Tok) := ow [99, 114, 111, 115, 115] ts (fun r => (needF [[106, 111, 105, 110]] r).bind fun r2 => bd (jdF R r2) fun x r3 => tbD R f (nd [99, 114, 111, 115, 115] [] [a, x]) r3) (lrX0 R f a ts)
theorem jt2_eq (R : Rc) (f : Nat) (a : Tr) (op : List UInt8) (ts : List Tok) : jt2X R f a op ts = jtX R f a op ts := rfl
theorem jo_eq (R : Rc) (f : Nat) (a : Tr) (op : List UInt8) (ts : List Tok) : joX R f a op ts = jtX R f a op (tkR [[111, 117, 116, 101, 114]] ts) := by
  unfold joX
  cases h : tkB [[111, 117, 116, 101, 114]] ts with
  | true => rw [ow_t h, jt2_eq]
  | false => rw [ow_f h, jt2_eq, tkR_no1 h]
def tbK (R : Rc) (f : Nat) (a : Tr) (x : Option (Option (List UInt8) × List Tok)) : Option (Tr × List Tok) := match x with
  | none => none
  | some (none, r) => some (a, r)
  | some (some op, r) => match jdF R r with
    | none => none
    | some (x, r2) => if op == [99, 114, 111, 115, 115] then tbD R f (nd op [] [a, x]) r2
      else match needF [[111, 110]] r2 with
        | none => none
        | some r3 => match R.expr r3 with
          | none => none
          | some (e, r4) => tbD R f (nd op [] [a, x, e]) r4
theorem tbK_eq (R : Rc) (f : Nat) (a : Tr) (ts : List Tok) : tbD R (f + 1) a ts = tbK R f a (jnD ts) := rfl
theorem tbK_jt (R : Rc) (f : Nat) (a : Tr) {op : List UInt8} (ho : (op == [99, 114, 111, 115, 115]) = false) (r : List Tok) : tbK R f a (match needF [[106, 111, 105, 110]] r with | none => none | some r2 => some (some op, r2)) = jtX R f a op r := by
  unfold jtX
  cases needF [[106, 111, 105, 110]] r with
  | none => rfl
  | some r2 =>
    simp only [Option.bind_some]
    unfold tbK
    simp only [ho, Bool.false_eq_true, if_false]
    cases jdF R r2 with
    | none => rfl
    | some p =>
      obtain ⟨x, r3⟩ := p
      rw [bd_at]
      simp only
      cases needF [[111, 110]] r3 with
      | none => rfl
      | some r4 =>
        simp only [Option.bind_some]
        cases R.expr r4 <;> rfl
theorem tbX_eq (R : Rc) (f : Nat) (a : Tr) (ts : List Tok) : tbD R (f + 1) a ts = tbX R f a ts := by
  rw [tbK_eq]
  unfold tbX jnD
  cases h1 : tkB [[99, 114, 111, 115, 115]] ts with
  | true =>
    rw [ow_t h1]
    simp only [if_true]
    cases needF [[106, 111, 105, 110]] (tkR [[99, 114, 111, 115, 115]] ts) with
    | none => rfl
    | some r2 =>
      simp only [Option.bind_some]
      unfold tbK
      simp only [beq_self_eq_true, if_true]
      cases jdF R r2 <;> rfl
  | false =>
    rw [ow_f h1]
    simp only [Bool.false_eq_true, if_false]
    have e0 : oneF 0 [] ts = none := by
      unfold oneF
      cases ts <;> simp
    have hO : oneF 0 [[108, 101, 102, 116], [114, 105, 103, 104, 116], [102, 117, 108, 108]] ts = ow [108, 101, 102, 116] ts (fun r => some ([108, 101, 102, 116], r)) (ow [114, 105, 103, 104, 116] ts (fun r => some ([114, 105, 103, 104, 116], r)) (ow [102, 117, 108, 108] ts (fun r => some ([102, 117, 108, 108], r)) none)) := by
      have h : og (oneF 0 [[108, 101, 102, 116], [114, 105, 103, 104, 116], [102, 117, 108, 108]] ts) (fun s r => some (s, r)) none = ow [108, 101, 102, 116] ts (fun r => some ([108, 101, 102, 116], r)) (ow [114, 105, 103, 104, 116] ts (fun r => some ([114, 105, 103, 104, 116], r)) (ow [102, 117, 108, 108] ts (fun r => some ([102, 117, 108, 108], r)) none)) := by
        rw [ow_one, ow_one, ow_one, e0]
        rfl
      refine Eq.trans ?_ h
      unfold og
      cases oneF 0 [[108, 101, 102, 116], [114, 105, 103, 104, 116], [102, 117, 108, 108]] ts <;> rfl
    rw [hO]
    unfold lrX0 lrX1 lrX2 lrX3
    cases h2 : tkB [[108, 101, 102, 116]] ts with
    | true => rw [ow_t h2, ow_t h2]; exact (tbK_jt R f a (by decide) _).trans (jo_eq R f a _ _).symm
    | false =>
      rw [ow_f h2, ow_f h2]
      cases h3 : tkB [[114, 105, 103, 104, 116]] ts with
      | true => rw [ow_t h3, ow_t h3]; exact (tbK_jt R f a (by decide) _).trans (jo_eq R f a _ _).symm
      | false =>
        rw [ow_f h3, ow_f h3]
        cases h4 : tkB [[102, 117, 108, 108]] ts with
        | true => rw [ow_t h4, ow_t h4]; exact (tbK_jt R f a (by decide) _).trans (jo_eq R f a _ _).symm
        | false =>
          rw [ow_f h4, ow_f h4]
          cases h5 : tkB [[105, 110, 110, 101, 114]] ts with
          | true =>
            rw [ow_t h5, jt2_eq]
            simp only [if_true]
            exact tbK_jt R f a (by decide) _
          | false =>
            rw [ow_f h5, sd_tkO]
            simp only [Bool.false_eq_true, if_false]
            cases h6 : tkB [[106, 111, 105, 110]] ts with
            | true =>
              simp only [if_true]
              rw [← tbK_jt R f a (by decide) ts, need1, h6]
              rfl
            | false =>
              simp only [Bool.false_eq_true, if_false]
              rfl
end Go.Proofs.YtaenpacfbheppaaGreatDoor
namespace Go.Proofs.YtaenpacfbheppaaGreatDoor
open Go.RowKit Go.Maps
def slT (d : Int) (items fr : List Tr) (wh g h : Tr) : Tr := .mk [115, 101, 108, 101, 99, 116] [] d [nd [105, 116, 101, 109, 115] [] items, nd [102, 114, 111, 109] [] fr, wh, g, h]
def slH (R : Rc) (d : Int) (items fr : List Tr) (wh g : Tr) (r : List Tok) : Option (Tr × List Tok) := ow [104, 97, 118, 105, 110, 103] r (fun r1 => bd (R.expr r1) fun e r2 => some (slT d items fr wh g (nd [104, 97, 118, 105, 110, 103] [] [e]), r2)) (some (slT d items fr wh g (nd [104, 97, 118, 105, 110, 103] [] []), r))
def slW (R : Rc) (d : Int) (items fr : List Tr) (wh : Tr) (r : List Tok) : Option (Tr × List Tok) := ow [103, 114, 111, 117, 112] r (fun r1 => (needF [[98, 121]] r1).bind fun r2 => bd (colF r2) fun x r3 => bd (lsN colF (r3.length + 1) [x] r3) fun l r4 => slH R d items fr wh (nd [103, 114, 111, 117, 112] [] l) r4) (slH R d items fr wh (nd [103, 114, 111, 117, 112] [] []) r)
def slF (R : Rc) (d : Int) (items fr : List Tr) (r : List Tok) : Option (Tr × List Tok) := ow [119, 104, 101, 114, 101] r (fun r1 => bd (R.expr r1) fun e r2 => slW R d items fr (nd [119, 104, 101, 114, 101] [] [e]) r2) (slW R d items fr (nd [119, 104, 101, 114, 101] [] []) r)
def slI (R : Rc) (d : Int) (items : List Tr) (r : List Tok) : Option (Tr × List Tok) := (needF [[102, 114, 111, 109]] r).bind fun r4 => bd (tabD R r4) fun x r5 => bd (lsN (tabD R) (r5.length + 1) [x] r5) fun fr r6 => slF R d items fr r6
def slX (R : Rc) (d : Int) (r : List Tok) : Option (Tr × List Tok) := bd (itmF R r) fun x r2 => bd (lsN (itmF R) (r2.length + 1) [x] r2) fun items r3 => slI R d items r3
def simX (R : Rc) (ts : List Tok) : Option (Tr × List Tok) := og (sgF [40] ts) (fun _ r => bd (R.body r) fun b r2 => bd (sgF [41] r2) fun _ r3 => some (b, r3)) ((needF [[115, 101, 108, 101, 99, 116]] ts).bind fun r => ow [100, 105, 115, 116, 105, 110, 99, 116] r (fun r1 => slX R 1 r1) (ow [97, 108, 108] r (fun r1 => slX R 0 r1) (slX R 0 r)))
theorem slH_eq (R : Rc) (d : Int) (items fr : List Tr) (wh g : Tr) (r : List Tok) : (match clsF R [104, 97, 118, 105, 110, 103] r with | none => none | some (h, r6) => some (slT d items fr wh g h, r6)) = slH R d items fr wh g r := by
  unfold clsF slH
  cases h : tkB [[104, 97, 118, 105, 110, 103]] r with
  | true =>
    rw [ow_t h]
    simp only [if_true]
    cases R.expr (tkR [[104, 97, 118, 105, 110, 103]] r) <;> rfl
  | false =>
    rw [ow_f h]
    simp only [Bool.false_eq_true, if_false]
theorem slW_eq (R : Rc) (d : Int) (items fr : List Tr) (wh : Tr) (r : List Tok) : (match groupD r with | none => none | some (g, r5) => match clsF R [104, 97, 118, 105, 110, 103] r5 with | none => none | some (h, r6) => some (slT d items fr wh g h, r6)) = slW R d items fr wh r := by
  unfold groupD slW
  cases h : tkB [[103, 114, 111, 117, 112]] r with
  | true =>
    rw [ow_t h]
    simp only [if_true]
    cases needF [[98, 121]] (tkR [[103, 114, 111, 117, 112]] r) with
    | none => rfl
    | some r2 =>
      simp only [Option.bind_some]
      rw [← lsF_x]
      cases lsF colF r2 with
      | none => rfl
      | some p => exact slH_eq R d items fr wh _ _
  | false =>
    rw [ow_f h]
    simp only [Bool.false_eq_true, if_false]
    exact slH_eq R d items fr wh _ _
theorem slF_eq (R : Rc) (d : Int) (items fr : List Tr) (r : List Tok) : (match clsF R [119, 104, 101, 114, 101] r with | none => none | some (wh, r4) => match groupD r4 with | none => none | some (g, r5) => match clsF R [104, 97, 118, 105, 110, 103] r5 with | none => none | some (h, r6) => some (slT d items fr wh g h, r6)) = slF R d items fr r := by
  have e : clsF R [119, 104, 101, 114, 101] r = ow [119, 104, 101, 114, 101] r (fun r1 => bd (R.expr r1) fun e r2 => some (nd [119, 104, 101, 114, 101] [] [e], r2)) (some (nd [119, 104, 101, 114, 101] [] [], r)) := by
    unfold clsF ow
    cases h : tkB [[119, 104, 101, 114, 101]] r with
    | true =>
      simp only [if_true]
      cases R.expr (tkR [[119, 104, 101, 114, 101]] r) <;> rfl
    | false => simp only [Bool.false_eq_true, if_false]
  rw [e]
  unfold slF
  cases h : tkB [[119, 104, 101, 114, 101]] r with
  | true =>
    rw [ow_t h, ow_t h]
    cases R.expr (tkR [[119, 104, 101, 114, 101]] r) with
    | none => rfl
    | some p => exact slW_eq R d items fr _ _
  | false =>
    rw [ow_f h, ow_f h]
    exact slW_eq R d items fr _ _
theorem slX_eq (R : Rc) (r : List Tok) : selD R r = slX R (distF r).1 (distF r).2 := by
  unfold selD slX slI
  rw [← lsF_x]
  cases lsF (itmF R) (distF r).2 with
  | none => rfl
  | some p =>
    obtain ⟨items, r1⟩ := p
    rw [bd_at]
    simp only
    cases needF [[102, 114, 111, 109]] r1 with
    | none => rfl
    | some r2 =>
      simp only [Option.bind_some]
      rw [← lsF_x]
      cases lsF (tabD R) r2 with
      | none => rfl
      | some q =>
        obtain ⟨fr, r3⟩ := q
        rw [bd_at]
        exact slF_eq R _ items fr r3
theorem simX_eq (R : Rc) : simD R = simX R := by
  funext ts
  unfold simD simX
  rw [sg_sd]
  cases h : sgF [40] ts with
  | some p =>
    simp only [Option.isSome_some, if_true]
    rw [parX_eq]
    unfold parX
    rw [h]
    rfl
  | none =>
    simp only [Option.isSome_none, Bool.false_eq_true, if_false]
    show _ = (needF [[115, 101, 108, 101, 99, 116]] ts).bind _
    cases needF [[115, 101, 108, 101, 99, 116]] ts with
    | none => rfl
    | some r =>
      simp only [Option.bind_some]
      rw [slX_eq]
      unfold distF
      cases h1 : tkB [[100, 105, 115, 116, 105, 110, 99, 116]] r with
      | true => rw [ow_t h1]; rfl
      | false =>
        rw [ow_f h1]
        simp only [Bool.false_eq_true, if_false]
        cases h2 : tkB [[97, 108, 108]] r with
        | true => rw [ow_t h2]
        | false => rw [ow_f h2, tkR_no1 h2]
theorem setF_x (R : Rc) {β : Type} (ts : List Tok) (K : Tr → List Tok → Option β) : bd (setF R ts) K = bd (nameF ts) fun s r => bd (sgF [61] r) fun _ r2 => bd (R.expr r2) fun e r3 => K (nd [115, 101, 116] s [e]) r3 := by
  unfold setF
  cases nameF ts with
  | none => rfl
  | some p =>
    obtain ⟨s, r⟩ := p
    rw [bd_at]
    simp only
    cases sgF [61] r with
    | none => rfl
    | some q =>
      obtain ⟨_, r2⟩ := q
      rw [bd_at]
      simp only
      cases R.expr r2 <;> rfl
def updX (R : Rc) (ts : List Tok) : Option (Tr × List Tok) := bd (nameF ts) fun s r => (needF [[115, 101, 116]] r).bind fun r2 => bd (setF R r2) fun x r3 => bd (lsN (setF R) (r3.length + 1) [x] r3) fun l r4 => bd (whoX R r4) fun wh r5 => some (nd [117, 112, 100, 97, 116, 101] s (l ++ [wh]), r5)
theorem updX_eq (R : Rc) (hw : whoF R = whoX R) : updF R = updX R := by
  funext ts
  unfold updF updX
  rw [← hw]
  cases nameF ts with
  | none => rfl
  | some p =>
    obtain ⟨s, r⟩ := p
    rw [bd_at]
    simp only
    cases needF [[115, 101, 116]] r with
    | none => rfl
    | some r2 =>
      simp only [Option.bind_some]
      rw [← lsF_x]
      cases lsF (setF R) r2 with
      | none => rfl
      | some q =>
        obtain ⟨l, r3⟩ := q
        rw [bd_at]
        simp only
        cases whoF R r3 <;> rfl
def fe2X (way : Tr) (ts : List Tok) : Option (Tr × List Tok) := bd (nameF ts) fun s r => some (nd [102, 101, 116, 99, 104] s [way], r)
def fe1X (way : Tr) (ts : List Tok) : Option (Tr × List Tok) := ow [102, 114, 111, 109] ts (fun r => fe2X way r) (fe2X way ts)
def feN (op : List UInt8) (ts : List Tok) : Option (Tr × List Tok) := og (sgF [45] ts) (fun _ r => bd (numF r) fun n r2 => fe1X (.mk op [] (-n) []) r2) (bd (numF ts) fun n r2 => fe1X (.mk op [] n []) r2)
def fetX6 (ts : List Tok) : Option (Tr × List Tok) := fe1X (nd [110, 101, 120, 116] [] []) ts
def fetX5 (ts : List Tok) : Option (Tr × List Tok) := ow [114, 101, 108, 97, 116, 105, 118, 101] ts (fun r => feN [114, 101, 108, 97, 116, 105, 118, 101] r) (fetX6 ts)
def fetX4 (ts : List Tok) : Option (Tr × List Tok) := ow [97, 98, 115, 111, 108, 117, 116, 101] ts (fun r => feN [97, 98, 115, 111, 108, 117, 116, 101] r) (fetX5 ts)
def fetX3 (ts : List Tok) : Option (Tr × List Tok) := ow [108, 97, 115, 116] ts (fun r => fe1X (nd [108, 97, 115, 116] [] []) r) (fetX4 ts)
def fetX2 (ts : List Tok) : Option (Tr × List Tok) := ow [102, 105, 114, 115, 116] ts (fun r => fe1X (nd [102, 105, 114, 115, 116] [] []) r) (fetX3 ts)
def fetX1 (ts : List Tok) : Option (Tr × List Tok) := ow [112, 114, 105, 111, 114] ts (fun r => fe1X (nd [112, 114, 105, 111, 114] [] []) r) (fetX2 ts)
def fetX (ts : List Tok) : Option (Tr × List Tok) := ow [110, 101, 120, 116] ts (fun r => fe1X (nd [110, 101, 120, 116] [] []) r) (fetX1 ts)
theorem fe1_eq (way : Tr) (r : List Tok) : (match nameF (tkR [[102, 114, 111, 109]] r) with | none => none | some (s, r2) => some (nd [102, 101, 116, 99, 104] s [way], r2)) = fe1X way r := by
  unfold fe1X fe2X
  cases h : tkB [[102, 114, 111, 109]] r with
  | true =>
    rw [ow_t h]
    cases nameF (tkR [[102, 114, 111, 109]] r) <;> rfl
  | false =>
    rw [ow_f h, tkR_no1 h]
    cases nameF r <;> rfl
def feK (x : Option (Tr × List Tok)) : Option (Tr × List Tok) := match x with
  | none => none
  | some (w, r) => match nameF (tkR [[102, 114, 111, 109]] r) with
    | none => none
    | some (s, r2) => some (nd [102, 101, 116, 99, 104] s [w], r2)
theorem feK_eq (ts : List Tok) : fetF ts = feK (wayF ts) := rfl
theorem feK_at (w : Tr) (r : List Tok) : feK (some (w, r)) = fe1X w r := fe1_eq w r
theorem feK_n (op : List UInt8) (r : List Tok) : feK (match sgnF r with | none => none | some (n, r2) => some (.mk op [] n [], r2)) = feN op r := by
  unfold sgnF feN
  cases h : sgF [45] r with
  | some p =>
    simp only [og]
    cases numF p.2 with
    | none => rfl
    | some q => exact feK_at _ _
  | none =>
    simp only [og]
    cases numF r with
    | none => rfl
    | some q => exact feK_at _ _
theorem fetX_eq : fetF = fetX := by
  funext ts
  rw [feK_eq]
  have e0 : oneF 0 [] ts = none := by
    unfold oneF
    cases ts <;> simp
  have e : feK (wayF ts) = og (oneF 0 [[110, 101, 120, 116], [112, 114, 105, 111, 114], [102, 105, 114, 115, 116], [108, 97, 115, 116]] ts) (fun op r => feK (some (nd op [] [], r))) (og (oneF 0 [[97, 98, 115, 111, 108, 117, 116, 101], [114, 101, 108, 97, 116, 105, 118, 101]] ts) (fun op r => feK (match sgnF r with | none => none | some (n, r2) => some (.mk op [] n [], r2))) (feK (some (nd [110, 101, 120, 116] [] [], ts)))) := by
    unfold wayF og
    cases oneF 0 [[110, 101, 120, 116], [112, 114, 105, 111, 114], [102, 105, 114, 115, 116], [108, 97, 115, 116]] ts with
    | some p => rfl
    | none =>
      simp only
      cases oneF 0 [[97, 98, 115, 111, 108, 117, 116, 101], [114, 101, 108, 97, 116, 105, 118, 101]] ts <;> rfl
  rw [e, ow_one, ow_one, ow_one, ow_one, ow_one, ow_one, e0]
  simp only [feK_at, feK_n]
  rfl
end Go.Proofs.YtaenpacfbheppaaGreatDoor
