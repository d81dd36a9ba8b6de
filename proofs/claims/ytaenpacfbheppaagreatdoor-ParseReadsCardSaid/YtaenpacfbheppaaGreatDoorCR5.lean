/- The document's reader: parts of statements (walks by genr.py). -/
import Derived.Test.YtaenpacfbheppaaGreatDoorCR4
set_option maxHeartbeats 16000000
set_option maxRecDepth 100000
set_option linter.unusedVariables false
set_option linter.unusedSimpArgs false
namespace Go.Proofs.YtaenpacfbheppaaGreatDoor
open Go.RowKit
def levX (ts : List Tok) : Option (Tr × List Tok) := ow [114, 101, 97, 100] ts (fun r => ow [117, 110, 99, 111, 109, 109, 105, 116, 116, 101, 100] r (fun r2 => some (.mk [105, 115, 111, 108, 97, 116, 105, 111, 110] [] 0 [], r2)) ((needF [[99, 111, 109, 109, 105, 116, 116, 101, 100]] r).bind fun r2 => some (.mk [105, 115, 111, 108, 97, 116, 105, 111, 110] [] 1 [], r2))) (ow [114, 101, 112, 101, 97, 116, 97, 98, 108, 101] ts (fun r => (needF [[114, 101, 97, 100]] r).bind fun r2 => some (.mk [105, 115, 111, 108, 97, 116, 105, 111, 110] [] 2 [], r2)) ((needF [[115, 101, 114, 105, 97, 108, 105, 122, 97, 98, 108, 101]] ts).bind fun r => some (.mk [105, 115, 111, 108, 97, 116, 105, 111, 110] [] 3 [], r)))
theorem levX_eq : (fun ts => bd (lvlD ts) fun n r => some (Tr.mk [105, 115, 111, 108, 97, 116, 105, 111, 110] [] n [], r)) = levX := by
  funext ts
  unfold lvlD levX ow
  cases h1 : tkB [[114, 101, 97, 100]] ts with
  | true =>
    simp only [if_true]
    cases tkB [[117, 110, 99, 111, 109, 109, 105, 116, 116, 101, 100]] (tkR [[114, 101, 97, 100]] ts) with
    | true => rfl
    | false => cases needF [[99, 111, 109, 109, 105, 116, 116, 101, 100]] (tkR [[114, 101, 97, 100]] ts) <;> rfl
  | false =>
    simp only [Bool.false_eq_true, if_false]
    cases tkB [[114, 101, 112, 101, 97, 116, 97, 98, 108, 101]] ts with
    | true => cases needF [[114, 101, 97, 100]] (tkR [[114, 101, 112, 101, 97, 116, 97, 98, 108, 101]] ts) <;> rfl
    | false => cases needF [[115, 101, 114, 105, 97, 108, 105, 122, 97, 98, 108, 101]] ts <;> rfl
def chkX (R : Rc) (ts : List Tok) : Option (Tr × List Tok) := (needF [[99, 104, 101, 99, 107]] ts).bind fun r0 => bd (sgF [40] r0) fun _ r => bd (R.expr r) fun e r2 => bd (sgF [41] r2) fun _ r3 => some (nd [99, 104, 101, 99, 107] [] [e], r3)
theorem chkF_x (R : Rc) (r0 : List Tok) : chkF R r0 = bd (sgF [40] r0) fun _ r => bd (R.expr r) fun e r2 => bd (sgF [41] r2) fun _ r3 => some (nd [99, 104, 101, 99, 107] [] [e], r3) := by
  unfold chkF
  rw [parX_eq]
  unfold parX bd
  cases sgF [40] r0 with
  | none => rfl
  | some p =>
    simp only
    cases R.expr p.2 with
    | none => rfl
    | some q =>
      simp only
      cases sgF [41] q.2 <;> rfl
def rowX (R : Rc) (ts : List Tok) : Option (Tr × List Tok) := bd (sgF [40] ts) fun _ r => bd (lsF R.expr r) fun l r2 => bd (sgF [41] r2) fun _ r3 => some (nd [114, 111, 119] [] l, r3)
theorem rowX_eq (R : Rc) : rowF R = rowX R := by
  funext ts
  unfold rowF rowX
  rw [parX_eq]
  unfold parX bd
  cases sgF [40] ts with
  | none => rfl
  | some p =>
    simp only
    cases lsF R.expr p.2 with
    | none => rfl
    | some q =>
      simp only
      cases sgF [41] q.2 <;> rfl
def whoX (R : Rc) (ts : List Tok) : Option (Tr × List Tok) := ow [119, 104, 101, 114, 101] ts (fun r => ow [99, 117, 114, 114, 101, 110, 116] r (fun r2 => (needF [[111, 102]] r2).bind fun r3 => bd (nameF r3) fun s r4 => some (nd [99, 117, 114, 114, 101, 110, 116] s [], r4)) (bd (R.expr r) fun e r2 => some (nd [119, 104, 101, 114, 101] [] [e], r2))) (some (nd [119, 104, 101, 114, 101] [] [], ts))
def kzX (b : Tr) (r : List Tok) : Option (Tr × List Tok) := ow [100, 101, 115, 99] r (fun r2 => some (nd [107, 101, 121] [100, 101, 115, 99] [b], r2)) (ow [97, 115, 99] r (fun r2 => some (nd [107, 101, 121] [97, 115, 99] [b], r2)) (some (nd [107, 101, 121] [97, 115, 99] [b], r)))
def keyX (ts : List Tok) : Option (Tr × List Tok) := if kdB 1 ts = true then bd (numF ts) (fun n r => kzX (.mk [110, 117, 109] [] n []) r) else bd (colF ts) fun b r => kzX b r
theorem kz_x (b : Tr) (r : List Tok) : (if tkB [[100, 101, 115, 99]] r = true then some (nd [107, 101, 121] [100, 101, 115, 99] [b], tkR [[100, 101, 115, 99]] r) else some (nd [107, 101, 121] [97, 115, 99] [b], tkR [[97, 115, 99]] r)) = kzX b r := by
  unfold kzX ow
  cases tkB [[100, 101, 115, 99]] r with
  | true => rfl
  | false =>
    simp only [Bool.false_eq_true, if_false]
    cases h : tkB [[97, 115, 99]] r with
    | true => rfl
    | false => rw [tkR_no1 h]; rfl
theorem keyX_eq : keyF = keyX := by
  funext ts
  unfold keyF
  have e : ∀ x : Option (Tr × List Tok), (match x with | none => none | some (b, r) => if tkB [[100, 101, 115, 99]] r = true then some (nd [107, 101, 121] [100, 101, 115, 99] [b], tkR [[100, 101, 115, 99]] r) else some (nd [107, 101, 121] [97, 115, 99] [b], tkR [[97, 115, 99]] r)) = bd x kzX := fun x => by
    cases x with
    | none => rfl
    | some p => exact kz_x p.1 p.2
  refine (e _).trans ?_
  unfold keyX kbyF
  cases ts with
  | nil => rfl
  | cons t r =>
    have hk : kdB 1 (t :: r) = (t.k == 1) := rfl
    rw [hk]
    cases h1 : t.k == 1 with
    | true =>
      have h2 : t.k = 1 := by simpa using h1
      have ha : atnB (t :: r) = false := by simp [atnB, h2]
      have hn : numF (t :: r) = some (t.n, r) := by simp [numF, takF, h2]
      rw [ha, hn]
      rfl
    | false =>
      simp only [Bool.false_eq_true, if_false]
      cases ha : atnB (t :: r) with
      | true => rfl
      | false =>
        have hn : numF (t :: r) = none := by simp [numF, takF, h1]
        have hm : nameF (t :: r) = none := by grind [nameF, takF, atnB]
        have hc : colF (t :: r) = none := by unfold colF; rw [hm]
        rw [hn, hc]
        rfl
theorem q_rlevel {E : Env} {B : Nat} {w0 w : World} {st : Option (List Tok)} {H : List Bx} {L : List Tn} (hg : GoodE E) (hC : Cx E B w0 w (.r st) H L) :
    Calls Tryz.prog 71 #[.pointer (some ⟨E.b, 0, none⟩)] w (RN E B w0 H L (st.bind (levX))) := by
  obtain ⟨o, ho⟩ : ∃ o, st.bind (levX) = o := ⟨_, rfl⟩
  rw [ho]
  unfold levX at ho
  have HO := hidk ho
  clear ho
  have h601 := hC.rsl
  go_enter Tryz.func71, Tryz.ntmps71
  go_wp2_with (first
  | (refine bA ?_; clear hC; intro W k hC)
  | (refine bS ?_; clear hC; intro W hC)
  | (go_at_call 15; refine aGot ?_ ?_ <;> clear hC HO; (focus (intro ts r W hC e hl HO; first | (cases e; done) | cases e)); rotate_left; (focus (intro hC HO)); rotate_left)
  | (go_at_call 35; refine aMust ?_; clear hC HO; intro st2 W hC hl HO)
  | (go_at_call 33; guard_target = Calls _ _ #[_, _, _, Value.slice none 0 0] _ _; (first | refine useRD (q_rnode0 hC _ _ _) ?_); clear hC; intro W ao cap hC))
  all_goals (refine hC.rc ?_; first | exact endRN HO (hC.fin mSub mMem mL) | exact endR0 HO (hC.fin mSub mMem mL))
theorem q_rcheck {E : Env} {B : Nat} {w0 w : World} {st : Option (List Tok)} {H : List Bx} {L : List Tn} {R : Rc} {n : Nat} (RC : Cw E R n) (hg : GoodE E) (hC : Cx E B w0 w (.r st) H L) (hn : sl st ≤ n) :
    Calls Tryz.prog 105 #[.pointer (some ⟨E.b, 0, none⟩)] w (RN E B w0 H L (st.bind (chkX R))) := by
  obtain ⟨o, ho⟩ : ∃ o, st.bind (chkX R) = o := ⟨_, rfl⟩
  rw [ho]
  unfold chkX at ho
  have HO := hidk ho
  clear ho
  have h601 := hC.rsl
  go_enter Tryz.func105, Tryz.ntmps105
  go_wp2_with (first
  | (refine bA ?_; clear hC; intro W k hC)
  | refine bL ?_
  | (refine bS ?_; clear hC; intro W hC)
  | (go_at_call 35; refine aMust ?_; clear hC HO; intro st2 W hC hl HO)
  | (go_at_call 70; refine uN (q_exprS RC hg hC (by omega)) HO ?_; clear hC HO; intro t st2 W ao cap he hC HO; have hl := sl_of RC.len.expr he; clear he)
  | (go_at_call 33; guard_target = Calls _ _ #[_, _, _, Value.slice (some _) 1 1] _ _; refine m5 ?_; clear hC; intro W ao cap hC))
  all_goals (refine hC.rc ?_; first | exact endRN HO (hC.fin mSub mMem mL) | exact endR0 HO (hC.fin mSub mMem mL))
theorem q_rrow {E : Env} {B : Nat} {w0 w : World} {st : Option (List Tok)} {H : List Bx} {L : List Tn} {R : Rc} {n : Nat} (RC : Cw E R n) (hg : GoodE E) (hC : Cx E B w0 w (.r st) H L) (hn : sl st ≤ n) (h0 : 0 < n) :
    Calls Tryz.prog 69 #[.pointer (some ⟨E.b, 0, none⟩)] w (RN E B w0 H L (st.bind (rowF R))) := by
  obtain ⟨o, ho⟩ : ∃ o, st.bind (rowF R) = o := ⟨_, rfl⟩
  rw [ho]
  rw [rowX_eq] at ho
  unfold rowX at ho
  have HO := hidk ho
  clear ho
  have h601 := hC.rsl
  go_enter Tryz.func69, Tryz.ntmps69
  go_wp2_with (first
  | (refine bA ?_; clear hC; intro W k hC)
  | (refine bS ?_; clear hC; intro W hC)
  | (go_at_call 35; refine aMust ?_; clear hC HO; intro st2 W hC hl HO)
  | (go_at_call 109; refine useRL (q_rexprs RC hg hC (by omega)) ?_; clear hC; intro l st2 W ao cap he hC h0l h1l; have hl := sl_of (lsF_Len RC.len.expr) he; replace HO := hidk (bindN he HO.out); clear he)
  | (go_at_call 33; have hD := hC; clear hC; refine m7 ?_; intro W ao cap hC; clear hD))
  all_goals (refine hC.rc ?_; first | exact endRN HO (hC.fin mSub mMem mL) | exact endR0 HO (hC.fin mSub mMem mL))
theorem q_rwhose {E : Env} {B : Nat} {w0 w : World} {st : Option (List Tok)} {H : List Bx} {L : List Tn} {R : Rc} {n : Nat} (RC : Cw E R n) (hg : GoodE E) (hC : Cx E B w0 w (.r st) H L) (hn : sl st ≤ n) :
    Calls Tryz.prog 38 #[.pointer (some ⟨E.b, 0, none⟩)] w (RN E B w0 H L (st.bind (whoX R))) := by
  obtain ⟨o, ho⟩ : ∃ o, st.bind (whoX R) = o := ⟨_, rfl⟩
  rw [ho]
  unfold whoX at ho
  have HO := hidk ho
  clear ho
  have h601 := hC.rsl
  go_enter Tryz.func38, Tryz.ntmps38
  go_wp2_with (first
  | (refine bA ?_; clear hC; intro W k hC)
  | (refine bS ?_; clear hC; intro W hC)
  | (go_at_call 15; refine aGot ?_ ?_ <;> clear hC HO; (focus (intro ts r W hC e hl HO; first | (cases e; done) | cases e)); rotate_left; (focus (intro hC HO)); rotate_left)
  | (go_at_call 35; refine aMust ?_; clear hC HO; intro st2 W hC hl HO)
  | (go_at_call 34; refine aName ?_; clear hC HO; intro s st2 W hC hl HO)
  | (go_at_call 70; refine uN (q_exprS RC hg hC (by omega)) HO ?_; clear hC HO; intro t st2 W ao cap he hC HO; have hl := sl_of RC.len.expr he; clear he)
  | (go_at_call 33; guard_target = Calls _ _ #[_, _, _, Value.slice none 0 0] _ _; (first | refine useRD (q_rnode0 hC _ _ _) ?_); clear hC; intro W ao cap hC)
  | (go_at_call 33; guard_target = Calls _ _ #[_, _, _, Value.slice (some _) 1 1] _ _; refine m5 ?_; clear hC; intro W ao cap hC))
  all_goals (refine hC.rc ?_; first | exact endRN HO (hC.fin mSub mMem mL) | exact endR0 HO (hC.fin mSub mMem mL))
theorem q_rkey {E : Env} {B : Nat} {w0 w : World} {st : Option (List Tok)} {H : List Bx} {L : List Tn} (hg : GoodE E) (hC : Cx E B w0 w (.r st) H L) :
    Calls Tryz.prog 64 #[.pointer (some ⟨E.b, 0, none⟩)] w (RN E B w0 H L (st.bind (keyF))) := by
  obtain ⟨o, ho⟩ : ∃ o, st.bind (keyF) = o := ⟨_, rfl⟩
  rw [ho]
  rw [keyX_eq] at ho
  unfold keyX kzX at ho
  have HO := hidk ho
  clear ho
  have h601 := hC.rsl
  go_enter Tryz.func64, Tryz.ntmps64
  go_wp2_with (first
  | (refine bA ?_; clear hC; intro W k hC)
  | refine bL ?_
  | (refine bS ?_; clear hC; intro W hC)
  | (go_at_call 31; guard_target = Calls _ _ #[_, Value.int _ 1] _ _; have hD := hC; clear hC; refine kindK hD _ ?_ ?_; (focus (intro t9 r9 W e hk9 hC; clear hD; first | (cases e; done) | (cases e; have hp := sl_pos (t9 :: r9); replace HO := hidk (bindC (c := kdB 1) (by simp [kdB, hk9]) HO.out); clear hk9))); rotate_left; (focus (intro W hb hC; clear hD; replace HO := hidk (bindD (c := kdB 1) hb HO.out); clear hb)); rotate_left)
  | (go_at_call 103; refine useRI (q_rnumber hC) ?_; clear hC; intro s st2 W he hC; have hl := sl_lt (fun _ _ _ h => by have := numF_len h; omega) he; replace HO := hidk (bindN he HO.out); clear he)
  | (go_at_call 104; refine uN (q_rcol hg hC) HO ?_; clear hC HO; intro t st2 W ao cap he hC HO; have hl := sl_of (fun ts x r h => colF_len h) he; clear he)
  | (go_at_call 15; refine aGot ?_ ?_ <;> clear hC HO; (focus (intro ts r W hC e hl HO; first | (cases e; done) | cases e)); rotate_left; (focus (intro hC HO)); rotate_left)
  | (go_at_call 33; guard_target = Calls _ _ #[_, _, _, Value.slice none 0 0] _ _; (first | refine useRD (q_rnode0 hC _ _ _) ?_); clear hC; intro W ao cap hC)
  | (go_at_call 33; guard_target = Calls _ _ #[_, _, _, Value.slice (some _) 1 1] _ _; refine m5 ?_; clear hC; intro W ao cap hC))
  all_goals (refine hC.rc ?_; first | exact endRN HO (hC.fin mSub mMem mL) | exact endR0 HO (hC.fin mSub mMem mL))
end Go.Proofs.YtaenpacfbheppaaGreatDoor
namespace Go.Proofs.YtaenpacfbheppaaGreatDoor
open Go.RowKit
theorem all_x {β : Type} (r : List Tok) (F : Int → List Tok → Option β) : bd (allF r) F = F (if tkB [[97, 108, 108]] r then 1 else 0) (tkR [[97, 108, 108]] r) := by
  unfold allF ow
  cases h : tkB [[97, 108, 108]] r with
  | true => rfl
  | false => rw [tkR_no1 h]; rfl
theorem one0_x (w : List UInt8) (ts : List Tok) : oneF 0 [w] ts = ow w ts (fun r => some (w, r)) none := by
  unfold oneF ow
  cases ts with
  | nil => rfl
  | cons t r =>
    have e : tkB [w] (t :: r) = (t.k == 0 && t.s == w) := by simp [tkB]
    have e2 : [w].contains t.s = (t.s == w) := by simp only [List.contains_cons, List.contains_nil, Bool.or_false]
    simp only [e2]
    rw [e]
    cases h : (t.k == 0 && t.s == w) with
    | false => rfl
    | true =>
      have hs : t.s = w := by simp at h; exact h.2
      have hr : tkR [w] (t :: r) = r := by unfold tkR; rw [e, h]; rfl
      simp only [if_true]
      rw [hr, hs]
theorem setLk_1 (w : List UInt8) (ts : List Tok) : setLk [w] ts = ow w ts (fun r => some ((w, if tkB [[97, 108, 108]] r then 1 else 0), tkR [[97, 108, 108]] r)) none := by
  unfold setLk
  rw [one0_x]
  unfold ow
  cases tkB [w] ts <;> rfl
theorem setLk_2 (u v : List UInt8) (ts : List Tok) : setLk [u, v] ts = ow u ts (fun r => some ((u, if tkB [[97, 108, 108]] r then 1 else 0), tkR [[97, 108, 108]] r)) (setLk [v] ts) := by
  unfold setLk
  rw [one_cons, one0_x u]
  unfold ow
  cases tkB [u] ts <;> rfl
theorem set1_x (I : Ps Tr) (w : List UInt8) (f : Nat) (a : Tr) (ts : List Tok) : ow w ts (fun r => bd (allF r) fun m r1 => bd (I r1) fun x r2 => chN I (setLk [w]) f (.mk w [] m [a, x]) r2) (some (a, ts)) = chN I (setLk [w]) (f + 1) a ts := by
  rw [chN, setLk_1]
  unfold ow
  cases tkB [w] ts with
  | false => rfl
  | true =>
    simp only [if_true]
    rw [all_x]
    cases I (tkR [[97, 108, 108]] (tkR [w] ts)) <;> rfl
theorem set2_x (I : Ps Tr) (u v : List UInt8) (f : Nat) (a : Tr) (ts : List Tok) : ow u ts (fun r => bd (allF r) fun m r1 => bd (I r1) fun x r2 => chN I (setLk [u, v]) f (.mk u [] m [a, x]) r2) (ow v ts (fun r => bd (allF r) fun m r1 => bd (I r1) fun x r2 => chN I (setLk [u, v]) f (.mk v [] m [a, x]) r2) (some (a, ts))) = chN I (setLk [u, v]) (f + 1) a ts := by
  rw [chN, setLk_2, setLk_1]
  unfold ow
  cases tkB [u] ts with
  | true =>
    simp only [if_true]
    rw [all_x]
    cases I (tkR [[97, 108, 108]] (tkR [u] ts)) <;> rfl
  | false =>
    simp only [Bool.false_eq_true, if_false]
    cases tkB [v] ts with
    | false => rfl
    | true =>
      simp only [if_true]
      rw [all_x]
      cases I (tkR [[97, 108, 108]] (tkR [v] ts)) <;> rfl
theorem q_rterm {E : Env} {B : Nat} {w0 w : World} {st : Option (List Tok)} {H : List Bx} {L : List Tn} {R : Rc} {n : Nat} (RC : Cw E R n) (HS : ∀ {B : Nat} {w0 w : World} {st : Option (List Tok)} {H : List Bx} {L : List Tn}, Cx E B w0 w (.r st) H L → sl st ≤ n → Calls Tryz.prog 130 #[.pointer (some ⟨E.b, 0, none⟩)] w (RN E B w0 H L (st.bind (simD R)))) (hHS : Len (simD R)) (hg : GoodE E) (hC : Cx E B w0 w (.r st) H L) (hn : sl st ≤ n) :
    Calls Tryz.prog 101 #[.pointer (some ⟨E.b, 0, none⟩)] w (RN E B w0 H L (st.bind (trmD R))) := by
  obtain ⟨o, ho⟩ : ∃ o, st.bind (trmD R) = o := ⟨_, rfl⟩
  rw [ho]
  have HO : Hid (st.bind (fun ts => bd ((simD R) ts) fun x r => chN (simD R) (setLk [[105, 110, 116, 101, 114, 115, 101, 99, 116]]) (r.length + 1) x r) = o) := by
    rw [← ho]
    show _ = _
    congr 1
    funext ts
    exact (chF_x (simD R) (setLk [[105, 110, 116, 101, 114, 115, 101, 99, 116]]) ts).symm
  clear ho
  have h601 := hC.rsl
  go_enter Tryz.func101, Tryz.ntmps101
  go_wp2_with (first
  | (guard_target = wpList _ _ _ (Oper.mk (some 2) (Op.alloc 24) _ _ _ _ :: _) _ _; refine hC.aN ?_; clear hC; intro W kR hC; (try simp only [pP]))
  | (guard_target = wpList _ _ _ (Oper.mk (some 3) (Op.alloc 24) _ _ _ _ :: _) _ _; refine hC.aN ?_; clear hC; intro W kN hC; (try simp only [pP]))
  | refine bL ?_
  | (refine bA ?_; clear hC; intro W k hC)
  | (refine bS ?_; clear hC; intro W hC)
  | (go_at_call 130; refine uN (HS hC (by omega)) HO ?_; clear hC HO; intro t st2 W ao cap he hC HO; have hl := sl_of hHS he; clear he))
  go_loopg [] (sl st2) (fun kx wr => ∃ (tA : Tr) (aA : Option Addr) (pA : Nat) (L' : List Tn) (st' : Option (List Tok)) (f : Nat), sl st' ≤ kx ∧ sl st' ≤ sl st ∧ Hid (Cx E B w0 wr (.r st') ((kN, ncs aA pA tA, 24) :: (kR, [.string ⟨#[]⟩, .string ⟨#[]⟩, .int .i64 0, .slice none 0 0], 24) :: H) L') ∧ Hid ((aA, pA, tA) ∈ L') ∧ Hid (∀ y ∈ L, y ∈ L') ∧ Hid (st'.bind (fun ts => chN (simD R) (setLk [[105, 110, 116, 101, 114, 115, 101, 99, 116]]) f tA ts) = o) ∧ sl st' ≤ f)
  case atStart => exact ⟨t, ao, cap, _, st2, sl st2, Nat.le_refl _, by omega, hC, .head _, mL, startC HO.out, Nat.le_refl _⟩
  case round =>
    rename World => wr
    clear hC HO
    obtain ⟨tA, aA, pA, L', st', f, hk, hst, hC', hM, hS, HO2, hf⟩ := hrel
    have hC := hC'.out
    clear hC'
    unfold ncs at hC
    cases st' with
    | none =>
      have HO : Hid ((none : Option (List Tok)).bind (fun r => some (tA, r)) = o) := HO2.out
      clear HO2
      go_wp2_with (first
      | refine bL ?_
      | (refine bA ?_; clear hC; intro W k hC)
      | (refine bS ?_; clear hC; intro W hC)
      | (refine bA ?_; clear hC; intro W k hC))
      all_goals (refine hC.rc ?_; refine endRN HO (hC.fin mSub hM.out (mS hS.out)))
    | some ts0 =>
      have hp0 := sl_pos ts0
      obtain ⟨f, rfl⟩ : ∃ f', f = f' + 1 := ⟨f - 1, by omega⟩
      have HO : Hid ((some ts0).bind (fun ts => (ow [105, 110, 116, 101, 114, 115, 101, 99, 116] ts (fun r => bd (allF r) fun m r1 => bd ((simD R) r1) fun x r2 => chN (simD R) (setLk [[105, 110, 116, 101, 114, 115, 101, 99, 116]]) f (.mk [105, 110, 116, 101, 114, 115, 101, 99, 116] [] m [tA, x]) r2) (some (tA, ts)))) = o) := by
        show _ = _
        rw [← HO2.out]
        exact congrArg ((some ts0).bind ·) (funext fun ts => set1_x (simD R) [105, 110, 116, 101, 114, 115, 101, 99, 116] f tA ts)
      clear HO2
      go_wp2_with (first
      | refine bL ?_
      | (refine bA ?_; clear hC; intro W k hC)
      | (refine bS ?_; clear hC; intro W hC)
      | (go_at_call 15; refine aGot ?_ ?_ <;> clear hC HO; (focus (intro ts r W hC e hl HO; first | (cases e; done) | cases e)); rotate_left; (focus (intro hC HO)); rotate_left)
      | (go_at_call 102; refine useRI (q_all hg hC) ?_; clear hC; intro s st2 W he hC; have hl := sl_of allF_Len he; replace HO := hidk (bindN he HO.out); clear he)
      | (guard_target = Code.wp _ (Code.region 6 _ true) _ _ _; refine wp_region_held_drew (S := HB []) (by kernel_rfl) (hC.drew.hbI0  ) (fun hHeld => ?_); replace hC := hC.drew; refine qk 0 ?_; (try simp only [pQ]); refine qk 2 ?_; (try simp only [pQ]); refine ry [1, 3] ?_; refine AllReadyH.cons rfl (fun K hK => ?_) (AllReadyH.cons rfl (fun K hK => ?_) AllReadyH.nil); (focus (refine st_of rfl ?_; refine wp_loadNM hC (by rfl) (by rfl) (by repeat (first | exact List.mem_cons_self | assumption | apply List.mem_cons_of_mem)) ?_; refine hK.out _ _ (hC.hbS0 ) fun hHeld => ?_; clear hK K; (try simp only [pQ]); refine ry [3] ?_; refine rd1 fun K hK => ?_; go_simp; (first | (go_at_call 130; refine uN (HS hC (by omega)) HO ?_; clear hC HO; intro t st2 W ao cap he hC HO; have hl := sl_of hHS he; clear he)); refine hK.out _ _ (hC.hbS0 ) fun hHeld => ?_; clear hK K; (try simp only [pQ]); refine ry [4] ?_; refine rd1 fun K hK => ?_; refine st_of rfl ?_; refine wp_build2C hC (by rfl) (by rfl) (by rfl) ?_; clear hC; intro W k hC; refine hK.out _ _ (hC.hbS0 ) fun hHeld => ?_; clear hK K; (try simp only [pQ]); refine ry [5] ?_; refine rd1 fun K hK => ?_; go_simp; (first | (go_at_call 33; guard_target = Calls _ _ #[_, _, _, Value.slice (some _) 2 2] _ _; (first | refine useRD (q_rnode2 _ _ _ hC (.tail _ hM.out) (.head _)) ?_); clear hC; intro W ao cap hC)); refine hK.out _ _ (hC.hbS0 ) fun hHeld => ?_; clear hK K; (try simp only [pQ]); refine ry [6] ?_; refine rd1 fun K hK => ?_; refine st_of rfl ?_; refine wsN ?_; clear hC; intro W hC; refine hK.out _ _ (hC.hbS0 ) fun hHeld => ?_; clear hK K; (try simp only [pQ]); refine dn ?_ _)); rotate_left; (focus (go_simp; (first | (go_at_call 130; refine uN (HS hC (by omega)) HO ?_; clear hC HO; intro t st2 W ao cap he hC HO; have hl := sl_of hHS he; clear he)); refine hK.out _ _ (hC.hbS0 ) fun hHeld => ?_; clear hK K; (try simp only [pQ]); refine ry [1] ?_; refine rd1 fun K hK => ?_; refine st_of rfl ?_; refine wp_loadNM hC (by rfl) (by rfl) (by repeat (first | exact List.mem_cons_self | assumption | apply List.mem_cons_of_mem)) ?_; refine hK.out _ _ (hC.hbS0 ) fun hHeld => ?_; clear hK K; (try simp only [pQ]); refine ry [4] ?_; refine rd1 fun K hK => ?_; refine st_of rfl ?_; refine wp_build2C hC (by rfl) (by rfl) (by rfl) ?_; clear hC; intro W k hC; refine hK.out _ _ (hC.hbS0 ) fun hHeld => ?_; clear hK K; (try simp only [pQ]); refine ry [5] ?_; refine rd1 fun K hK => ?_; go_simp; (first | (go_at_call 33; guard_target = Calls _ _ #[_, _, _, Value.slice (some _) 2 2] _ _; (first | refine useRD (q_rnode2 _ _ _ hC (.tail _ hM.out) (.head _)) ?_); clear hC; intro W ao cap hC)); refine hK.out _ _ (hC.hbS0 ) fun hHeld => ?_; clear hK K; (try simp only [pQ]); refine ry [6] ?_; refine rd1 fun K hK => ?_; refine st_of rfl ?_; refine wsN ?_; clear hC; intro W hC; refine hK.out _ _ (hC.hbS0 ) fun hHeld => ?_; clear hK K; (try simp only [pQ]); refine dn ?_ _)); rotate_left))
      · go_roundg (sl st2)
        case measure => omega
        case rel => exact ⟨.mk [105, 110, 116, 101, 114, 115, 101, 99, 116] [] s [tA, t], ao, cap, _, st2, f, Nat.le_refl _, by omega, hC.less (by (repeat (first | exact List.Sublist.refl _ | apply List.Sublist.cons_cons | apply List.Sublist.cons)); done) (fun y hy => hy), .head _, (mS hS.out), HO, by omega⟩
      · go_roundg (sl st2)
        case measure => omega
        case rel => exact ⟨.mk [105, 110, 116, 101, 114, 115, 101, 99, 116] [] s [tA, t], ao, cap, _, st2, f, Nat.le_refl _, by omega, hC.less (by (repeat (first | exact List.Sublist.refl _ | apply List.Sublist.cons_cons | apply List.Sublist.cons)); done) (fun y hy => hy), .head _, (mS hS.out), HO, by omega⟩
      all_goals (refine hC.rc ?_; refine endRN HO (hC.fin mSub hM.out (mS hS.out)))
theorem q_rbody {E : Env} {B : Nat} {w0 w : World} {st : Option (List Tok)} {H : List Bx} {L : List Tn} {R : Rc} {n : Nat} (RC : Cw E R n) (HT : ∀ {B : Nat} {w0 w : World} {st : Option (List Tok)} {H : List Bx} {L : List Tn}, Cx E B w0 w (.r st) H L → sl st ≤ n → Calls Tryz.prog 101 #[.pointer (some ⟨E.b, 0, none⟩)] w (RN E B w0 H L (st.bind (trmD R)))) (hHT : Len (trmD R)) (hg : GoodE E) (hC : Cx E B w0 w (.r st) H L) (hn : sl st ≤ n) :
    Calls Tryz.prog 63 #[.pointer (some ⟨E.b, 0, none⟩)] w (RN E B w0 H L (st.bind (bodD R))) := by
  obtain ⟨o, ho⟩ : ∃ o, st.bind (bodD R) = o := ⟨_, rfl⟩
  rw [ho]
  have HO : Hid (st.bind (fun ts => bd ((trmD R) ts) fun x r => chN (trmD R) (setLk [[117, 110, 105, 111, 110], [101, 120, 99, 101, 112, 116]]) (r.length + 1) x r) = o) := by
    rw [← ho]
    show _ = _
    congr 1
    funext ts
    exact (chF_x (trmD R) (setLk [[117, 110, 105, 111, 110], [101, 120, 99, 101, 112, 116]]) ts).symm
  clear ho
  have h601 := hC.rsl
  go_enter Tryz.func63, Tryz.ntmps63
  go_wp2_with (first
  | (guard_target = wpList _ _ _ (Oper.mk (some 2) (Op.alloc 24) _ _ _ _ :: _) _ _; refine hC.aN ?_; clear hC; intro W kR hC; (try simp only [pP]))
  | (guard_target = wpList _ _ _ (Oper.mk (some 3) (Op.alloc 24) _ _ _ _ :: _) _ _; refine hC.aN ?_; clear hC; intro W kN hC; (try simp only [pP]))
  | refine bL ?_
  | (refine bA ?_; clear hC; intro W k hC)
  | (refine bS ?_; clear hC; intro W hC)
  | (go_at_call 101; refine uN (HT hC (by omega)) HO ?_; clear hC HO; intro t st2 W ao cap he hC HO; have hl := sl_of hHT he; clear he))
  go_loopg [] (sl st2) (fun kx wr => ∃ (tA : Tr) (aA : Option Addr) (pA : Nat) (L' : List Tn) (st' : Option (List Tok)) (f : Nat), sl st' ≤ kx ∧ sl st' ≤ sl st ∧ Hid (Cx E B w0 wr (.r st') ((kN, ncs aA pA tA, 24) :: (kR, [.string ⟨#[]⟩, .string ⟨#[]⟩, .int .i64 0, .slice none 0 0], 24) :: H) L') ∧ Hid ((aA, pA, tA) ∈ L') ∧ Hid (∀ y ∈ L, y ∈ L') ∧ Hid (st'.bind (fun ts => chN (trmD R) (setLk [[117, 110, 105, 111, 110], [101, 120, 99, 101, 112, 116]]) f tA ts) = o) ∧ sl st' ≤ f)
  case atStart => exact ⟨t, ao, cap, _, st2, sl st2, Nat.le_refl _, by omega, hC, .head _, mL, startC HO.out, Nat.le_refl _⟩
  case round =>
    rename World => wr
    clear hC HO
    obtain ⟨tA, aA, pA, L', st', f, hk, hst, hC', hM, hS, HO2, hf⟩ := hrel
    have hC := hC'.out
    clear hC'
    unfold ncs at hC
    cases st' with
    | none =>
      have HO : Hid ((none : Option (List Tok)).bind (fun r => some (tA, r)) = o) := HO2.out
      clear HO2
      go_wp2_with (first
      | refine bL ?_
      | (refine bA ?_; clear hC; intro W k hC)
      | (refine bS ?_; clear hC; intro W hC)
      | (refine bA ?_; clear hC; intro W k hC))
      all_goals (refine hC.rc ?_; refine endRN HO (hC.fin mSub hM.out (mS hS.out)))
    | some ts0 =>
      have hp0 := sl_pos ts0
      obtain ⟨f, rfl⟩ : ∃ f', f = f' + 1 := ⟨f - 1, by omega⟩
      have HO : Hid ((some ts0).bind (fun ts => (ow [117, 110, 105, 111, 110] ts (fun r => bd (allF r) fun m r1 => bd ((trmD R) r1) fun x r2 => chN (trmD R) (setLk [[117, 110, 105, 111, 110], [101, 120, 99, 101, 112, 116]]) f (.mk [117, 110, 105, 111, 110] [] m [tA, x]) r2) (ow [101, 120, 99, 101, 112, 116] ts (fun r => bd (allF r) fun m r1 => bd ((trmD R) r1) fun x r2 => chN (trmD R) (setLk [[117, 110, 105, 111, 110], [101, 120, 99, 101, 112, 116]]) f (.mk [101, 120, 99, 101, 112, 116] [] m [tA, x]) r2) (some (tA, ts))))) = o) := by
        show _ = _
        rw [← HO2.out]
        exact congrArg ((some ts0).bind ·) (funext fun ts => set2_x (trmD R) [117, 110, 105, 111, 110] [101, 120, 99, 101, 112, 116] f tA ts)
      clear HO2
      go_wp2_with (first
      | refine bL ?_
      | (refine bA ?_; clear hC; intro W k hC)
      | (refine bS ?_; clear hC; intro W hC)
      | (go_at_call 15; refine aGot ?_ ?_ <;> clear hC HO; (focus (intro ts r W hC e hl HO; first | (cases e; done) | cases e)); rotate_left; (focus (intro hC HO)); rotate_left)
      | (go_at_call 102; refine useRI (q_all hg hC) ?_; clear hC; intro s st2 W he hC; have hl := sl_of allF_Len he; replace HO := hidk (bindN he HO.out); clear he)
      | (guard_target = Code.wp _ (Code.region 6 _ true) _ _ _; refine wp_region_held_drew (S := HB []) (by kernel_rfl) (hC.drew.hbI0  ) (fun hHeld => ?_); replace hC := hC.drew; refine qk 0 ?_; (try simp only [pQ]); refine qk 2 ?_; (try simp only [pQ]); refine ry [1, 3] ?_; refine AllReadyH.cons rfl (fun K hK => ?_) (AllReadyH.cons rfl (fun K hK => ?_) AllReadyH.nil); (focus (refine st_of rfl ?_; refine wp_loadNM hC (by rfl) (by rfl) (by repeat (first | exact List.mem_cons_self | assumption | apply List.mem_cons_of_mem)) ?_; refine hK.out _ _ (hC.hbS0 ) fun hHeld => ?_; clear hK K; (try simp only [pQ]); refine ry [3] ?_; refine rd1 fun K hK => ?_; go_simp; (first | (go_at_call 101; refine uN (HT hC (by omega)) HO ?_; clear hC HO; intro t st2 W ao cap he hC HO; have hl := sl_of hHT he; clear he)); refine hK.out _ _ (hC.hbS0 ) fun hHeld => ?_; clear hK K; (try simp only [pQ]); refine ry [4] ?_; refine rd1 fun K hK => ?_; refine st_of rfl ?_; refine wp_build2C hC (by rfl) (by rfl) (by rfl) ?_; clear hC; intro W k hC; refine hK.out _ _ (hC.hbS0 ) fun hHeld => ?_; clear hK K; (try simp only [pQ]); refine ry [5] ?_; refine rd1 fun K hK => ?_; go_simp; (first | (go_at_call 33; guard_target = Calls _ _ #[_, _, _, Value.slice (some _) 2 2] _ _; (first | refine useRD (q_rnode2 _ _ _ hC (.tail _ hM.out) (.head _)) ?_); clear hC; intro W ao cap hC)); refine hK.out _ _ (hC.hbS0 ) fun hHeld => ?_; clear hK K; (try simp only [pQ]); refine ry [6] ?_; refine rd1 fun K hK => ?_; refine st_of rfl ?_; refine wsN ?_; clear hC; intro W hC; refine hK.out _ _ (hC.hbS0 ) fun hHeld => ?_; clear hK K; (try simp only [pQ]); refine dn ?_ _)); rotate_left; (focus (go_simp; (first | (go_at_call 101; refine uN (HT hC (by omega)) HO ?_; clear hC HO; intro t st2 W ao cap he hC HO; have hl := sl_of hHT he; clear he)); refine hK.out _ _ (hC.hbS0 ) fun hHeld => ?_; clear hK K; (try simp only [pQ]); refine ry [1] ?_; refine rd1 fun K hK => ?_; refine st_of rfl ?_; refine wp_loadNM hC (by rfl) (by rfl) (by repeat (first | exact List.mem_cons_self | assumption | apply List.mem_cons_of_mem)) ?_; refine hK.out _ _ (hC.hbS0 ) fun hHeld => ?_; clear hK K; (try simp only [pQ]); refine ry [4] ?_; refine rd1 fun K hK => ?_; refine st_of rfl ?_; refine wp_build2C hC (by rfl) (by rfl) (by rfl) ?_; clear hC; intro W k hC; refine hK.out _ _ (hC.hbS0 ) fun hHeld => ?_; clear hK K; (try simp only [pQ]); refine ry [5] ?_; refine rd1 fun K hK => ?_; go_simp; (first | (go_at_call 33; guard_target = Calls _ _ #[_, _, _, Value.slice (some _) 2 2] _ _; (first | refine useRD (q_rnode2 _ _ _ hC (.tail _ hM.out) (.head _)) ?_); clear hC; intro W ao cap hC)); refine hK.out _ _ (hC.hbS0 ) fun hHeld => ?_; clear hK K; (try simp only [pQ]); refine ry [6] ?_; refine rd1 fun K hK => ?_; refine st_of rfl ?_; refine wsN ?_; clear hC; intro W hC; refine hK.out _ _ (hC.hbS0 ) fun hHeld => ?_; clear hK K; (try simp only [pQ]); refine dn ?_ _)); rotate_left)
      | (guard_target = Code.wp _ (Code.region 9 _ true) _ _ _; refine wp_region_held_drew (S := HB []) (by kernel_rfl) (hC.drew.hbI0  ) (fun hHeld => ?_); replace hC := hC.drew; refine qk 0 ?_; (try simp only [pQ]); refine qk 2 ?_; (try simp only [pQ]); refine ry [1, 3] ?_; refine AllReadyH.cons rfl (fun K hK => ?_) (AllReadyH.cons rfl (fun K hK => ?_) AllReadyH.nil); (focus (refine st_of rfl ?_; refine wp_loadNM hC (by rfl) (by rfl) (by repeat (first | exact List.mem_cons_self | assumption | apply List.mem_cons_of_mem)) ?_; refine hK.out _ _ (hC.hbS0 ) fun hHeld => ?_; clear hK K; (try simp only [pQ]); refine ry [3] ?_; refine rd1 fun K hK => ?_; go_simp; (first | (go_at_call 101; refine uN (HT hC (by omega)) HO ?_; clear hC HO; intro t st2 W ao cap he hC HO; have hl := sl_of hHT he; clear he)); refine hK.out _ _ (hC.hbS0 ) fun hHeld => ?_; clear hK K; (try simp only [pQ]); refine ry [4] ?_; refine rd1 fun K hK => ?_; refine st_of rfl ?_; refine wp_build2C hC (by rfl) (by rfl) (by rfl) ?_; clear hC; intro W k hC; refine hK.out _ _ (hC.hbS0 ) fun hHeld => ?_; clear hK K; (try simp only [pQ]); refine ry [5] ?_; refine rd1 fun K hK => ?_; go_simp; (first | (go_at_call 33; guard_target = Calls _ _ #[_, _, _, Value.slice (some _) 2 2] _ _; (first | refine useRD (q_rnode2 _ _ _ hC (.tail _ hM.out) (.head _)) ?_); clear hC; intro W ao cap hC)); refine hK.out _ _ (hC.hbS0 ) fun hHeld => ?_; clear hK K; (try simp only [pQ]); refine ry [6] ?_; refine rd1 fun K hK => ?_; refine st_of rfl ?_; refine wsN ?_; clear hC; intro W hC; refine hK.out _ _ (hC.hbS0 ) fun hHeld => ?_; clear hK K; (try simp only [pQ]); refine dn ?_ _)); rotate_left; (focus (go_simp; (first | (go_at_call 101; refine uN (HT hC (by omega)) HO ?_; clear hC HO; intro t st2 W ao cap he hC HO; have hl := sl_of hHT he; clear he)); refine hK.out _ _ (hC.hbS0 ) fun hHeld => ?_; clear hK K; (try simp only [pQ]); refine ry [1] ?_; refine rd1 fun K hK => ?_; refine st_of rfl ?_; refine wp_loadNM hC (by rfl) (by rfl) (by repeat (first | exact List.mem_cons_self | assumption | apply List.mem_cons_of_mem)) ?_; refine hK.out _ _ (hC.hbS0 ) fun hHeld => ?_; clear hK K; (try simp only [pQ]); refine ry [4] ?_; refine rd1 fun K hK => ?_; refine st_of rfl ?_; refine wp_build2C hC (by rfl) (by rfl) (by rfl) ?_; clear hC; intro W k hC; refine hK.out _ _ (hC.hbS0 ) fun hHeld => ?_; clear hK K; (try simp only [pQ]); refine ry [5] ?_; refine rd1 fun K hK => ?_; go_simp; (first | (go_at_call 33; guard_target = Calls _ _ #[_, _, _, Value.slice (some _) 2 2] _ _; (first | refine useRD (q_rnode2 _ _ _ hC (.tail _ hM.out) (.head _)) ?_); clear hC; intro W ao cap hC)); refine hK.out _ _ (hC.hbS0 ) fun hHeld => ?_; clear hK K; (try simp only [pQ]); refine ry [6] ?_; refine rd1 fun K hK => ?_; refine st_of rfl ?_; refine wsN ?_; clear hC; intro W hC; refine hK.out _ _ (hC.hbS0 ) fun hHeld => ?_; clear hK K; (try simp only [pQ]); refine dn ?_ _)); rotate_left))
      · go_roundg (sl st2)
        case measure => omega
        case rel => exact ⟨.mk [117, 110, 105, 111, 110] [] s [tA, t], ao, cap, _, st2, f, Nat.le_refl _, by omega, hC.less (by (repeat (first | exact List.Sublist.refl _ | apply List.Sublist.cons_cons | apply List.Sublist.cons)); done) (fun y hy => hy), .head _, (mS hS.out), HO, by omega⟩
      · go_roundg (sl st2)
        case measure => omega
        case rel => exact ⟨.mk [117, 110, 105, 111, 110] [] s [tA, t], ao, cap, _, st2, f, Nat.le_refl _, by omega, hC.less (by (repeat (first | exact List.Sublist.refl _ | apply List.Sublist.cons_cons | apply List.Sublist.cons)); done) (fun y hy => hy), .head _, (mS hS.out), HO, by omega⟩
      · go_roundg (sl st2)
        case measure => omega
        case rel => exact ⟨.mk [101, 120, 99, 101, 112, 116] [] s [tA, t], ao, cap, _, st2, f, Nat.le_refl _, by omega, hC.less (by (repeat (first | exact List.Sublist.refl _ | apply List.Sublist.cons_cons | apply List.Sublist.cons)); done) (fun y hy => hy), .head _, (mS hS.out), HO, by omega⟩
      · go_roundg (sl st2)
        case measure => omega
        case rel => exact ⟨.mk [101, 120, 99, 101, 112, 116] [] s [tA, t], ao, cap, _, st2, f, Nat.le_refl _, by omega, hC.less (by (repeat (first | exact List.Sublist.refl _ | apply List.Sublist.cons_cons | apply List.Sublist.cons)); done) (fun y hy => hy), .head _, (mS hS.out), HO, by omega⟩
      all_goals (refine hC.rc ?_; refine endRN HO (hC.fin mSub hM.out (mS hS.out)))
end Go.Proofs.YtaenpacfbheppaaGreatDoor
namespace Go.Proofs.YtaenpacfbheppaaGreatDoor
open Go.RowKit
def decX (R : Rc) (ts : List Tok) : Option (Tr × List Tok) := bd (nameF ts) fun s r => ow [115, 99, 114, 111, 108, 108] r (fun r0 => (needF [[99, 117, 114, 115, 111, 114]] r0).bind fun r1 => (needF [[102, 111, 114]] r1).bind fun r2 => bd (qryD R r2) fun q r3 => ow [102, 111, 114] r3 (fun r4 => ow [114, 101, 97, 100] r4 (fun r5 => (needF [[111, 110, 108, 121]] r5).bind fun r6 => some (.mk [100, 101, 99, 108, 97, 114, 101] s 1 [q, nd [102, 111, 114] [114, 101, 97, 100, 32, 111, 110, 108, 121] []], r6)) ((needF [[117, 112, 100, 97, 116, 101]] r4).bind fun r5 => some (.mk [100, 101, 99, 108, 97, 114, 101] s 1 [q, nd [102, 111, 114] [117, 112, 100, 97, 116, 101] []], r5))) (some (.mk [100, 101, 99, 108, 97, 114, 101] s 1 [q, nd [102, 111, 114] [] []], r3))) ((needF [[99, 117, 114, 115, 111, 114]] r).bind fun r1 => (needF [[102, 111, 114]] r1).bind fun r2 => bd (qryD R r2) fun q r3 => ow [102, 111, 114] r3 (fun r4 => ow [114, 101, 97, 100] r4 (fun r5 => (needF [[111, 110, 108, 121]] r5).bind fun r6 => some (.mk [100, 101, 99, 108, 97, 114, 101] s 0 [q, nd [102, 111, 114] [114, 101, 97, 100, 32, 111, 110, 108, 121] []], r6)) ((needF [[117, 112, 100, 97, 116, 101]] r4).bind fun r5 => some (.mk [100, 101, 99, 108, 97, 114, 101] s 0 [q, nd [102, 111, 114] [117, 112, 100, 97, 116, 101] []], r5))) (some (.mk [100, 101, 99, 108, 97, 114, 101] s 0 [q, nd [102, 111, 114] [] []], r3)))
theorem pur_x {s : List UInt8} {m : Int} {q : Tr} (r3 : List Tok) : (match purD r3 with | none => none | some (p, r4) => some (Tr.mk [100, 101, 99, 108, 97, 114, 101] s m [q, p], r4)) = ow [102, 111, 114] r3 (fun r4 => ow [114, 101, 97, 100] r4 (fun r5 => (needF [[111, 110, 108, 121]] r5).bind fun r6 => some (.mk [100, 101, 99, 108, 97, 114, 101] s m [q, nd [102, 111, 114] [114, 101, 97, 100, 32, 111, 110, 108, 121] []], r6)) ((needF [[117, 112, 100, 97, 116, 101]] r4).bind fun r5 => some (.mk [100, 101, 99, 108, 97, 114, 101] s m [q, nd [102, 111, 114] [117, 112, 100, 97, 116, 101] []], r5))) (some (.mk [100, 101, 99, 108, 97, 114, 101] s m [q, nd [102, 111, 114] [] []], r3)) := by
  unfold purD ow
  cases tkB [[102, 111, 114]] r3 with
  | false => rfl
  | true =>
    simp only [if_true]
    cases tkB [[114, 101, 97, 100]] (tkR [[102, 111, 114]] r3) with
    | true => cases needF [[111, 110, 108, 121]] (tkR [[114, 101, 97, 100]] (tkR [[102, 111, 114]] r3)) <;> rfl
    | false => cases needF [[117, 112, 100, 97, 116, 101]] (tkR [[102, 111, 114]] r3) <;> rfl
theorem bd_at {α β : Type} (a : α) (r : List Tok) (k : α → List Tok → Option β) : bd (some (a, r)) k = k a r := rfl
theorem ow_t {β : Type} {w : List UInt8} {ts : List Tok} {a : List Tok → Option β} {b : Option β} (h : tkB [w] ts = true) : ow w ts a b = a (tkR [w] ts) := if_pos h
theorem ow_f {β : Type} {w : List UInt8} {ts : List Tok} {a : List Tok → Option β} {b : Option β} (h : tkB [w] ts = false) : ow w ts a b = b := by
  unfold ow
  rw [h]
  rfl
theorem decX_eq (R : Rc) : decD R = decX R := by
  funext ts
  unfold decD decX
  cases nameF ts with
  | none => rfl
  | some p =>
    obtain ⟨s, r⟩ := p
    have hq : ∀ (m : Int) (x : List Tok), (match needF [[99, 117, 114, 115, 111, 114]] x with | none => none | some r1 => match needF [[102, 111, 114]] r1 with | none => none | some r2 => match qryD R r2 with | none => none | some (q, r3) => match purD r3 with | none => none | some (p, r4) => some (Tr.mk [100, 101, 99, 108, 97, 114, 101] s m [q, p], r4)) = (needF [[99, 117, 114, 115, 111, 114]] x).bind fun r1 => (needF [[102, 111, 114]] r1).bind fun r2 => bd (qryD R r2) fun q r3 => ow [102, 111, 114] r3 (fun r4 => ow [114, 101, 97, 100] r4 (fun r5 => (needF [[111, 110, 108, 121]] r5).bind fun r6 => some (.mk [100, 101, 99, 108, 97, 114, 101] s m [q, nd [102, 111, 114] [114, 101, 97, 100, 32, 111, 110, 108, 121] []], r6)) ((needF [[117, 112, 100, 97, 116, 101]] r4).bind fun r5 => some (.mk [100, 101, 99, 108, 97, 114, 101] s m [q, nd [102, 111, 114] [117, 112, 100, 97, 116, 101] []], r5))) (some (.mk [100, 101, 99, 108, 97, 114, 101] s m [q, nd [102, 111, 114] [] []], r3)) := by
      intro m x
      cases needF [[99, 117, 114, 115, 111, 114]] x with
      | none => rfl
      | some r1 =>
        simp only [Option.bind_some]
        cases needF [[102, 111, 114]] r1 with
        | none => rfl
        | some r2 =>
          simp only [Option.bind_some]
          cases qryD R r2 with
          | none => rfl
          | some z => exact pur_x z.2
    rw [bd_at]
    cases h : tkB [[115, 99, 114, 111, 108, 108]] r with
    | true =>
      rw [ow_t h]
      refine Eq.trans ?_ (hq 1 _)
      simp only [h, if_true]
      rfl
    | false =>
      rw [ow_f h]
      refine Eq.trans ?_ (hq 0 _)
      simp only [h, tkR_no1 h, Bool.false_eq_true, if_false]
      rfl
theorem q_rdeclare {E : Env} {B : Nat} {w0 w : World} {st : Option (List Tok)} {H : List Bx} {L : List Tn} {R : Rc} {n : Nat} (HQ : ∀ {B : Nat} {w0 w : World} {st : Option (List Tok)} {H : List Bx} {L : List Tn}, Cx E B w0 w (.r st) H L → sl st ≤ n → Calls Tryz.prog 30 #[.pointer (some ⟨E.b, 0, none⟩)] w (RN E B w0 H L (st.bind (qryD R)))) (hHQ : Len (qryD R)) (hg : GoodE E) (hC : Cx E B w0 w (.r st) H L) (hn : sl st ≤ n) :
    Calls Tryz.prog 72 #[.pointer (some ⟨E.b, 0, none⟩)] w (RN E B w0 H L (st.bind (decD R))) := by
  obtain ⟨o, ho⟩ : ∃ o, st.bind (decD R) = o := ⟨_, rfl⟩
  rw [ho]
  rw [decX_eq] at ho
  unfold decX at ho
  have HO := hidk ho
  clear ho
  have h601 := hC.rsl
  go_enter Tryz.func72, Tryz.ntmps72
  go_wp2_with (first
  | (refine bA ?_; clear hC; intro W k hC)
  | refine bL ?_
  | (refine bS ?_; clear hC; intro W hC)
  | (go_at_call 34; refine aName ?_; clear hC HO; intro s st2 W hC hl HO)
  | (go_at_call 15; refine aGot ?_ ?_ <;> clear hC HO; (focus (intro ts r W hC e hl HO; first | (cases e; done) | cases e)); rotate_left; (focus (intro hC HO)); rotate_left)
  | (go_at_call 35; refine aMust ?_; clear hC HO; intro st2 W hC hl HO)
  | (go_at_call 30; refine uN (HQ hC (by omega)) HO ?_; clear hC HO; intro t st2 W ao cap he hC HO; have hl := sl_of hHQ he; clear he)
  | (guard_target = Code.wp _ (Code.region 15 _ true) _ _ _; refine wp_region_held_drew (S := HB [_]) (by kernel_rfl) (hC.drew.hbI1 0 (by rfl)) (fun hHeld => ?_); replace hC := hC.drew; refine qk 0 ?_; (try simp only [pQ]); refine qk 1 ?_; (try simp only [pQ]); refine qkN 2 ?_; (try simp only [pQ]); refine qk 3 ?_; (try simp only [pQ]); refine ry [4] ?_; refine rd1 fun K hK => ?_; go_simp; (first | (go_at_call 33; guard_target = Calls _ _ #[_, _, _, Value.slice none 0 0] _ _; (first | refine useRD (q_rnode0 hC _ _ _) ?_); clear hC; intro W ao cap hC) | (go_at_call 33; guard_target = Calls _ _ #[_, _, _, Value.slice (some _) 2 2] _ _; refine m6 ?_; clear hC; intro W ao cap hC)); refine hK.out _ _ hC.hb1' fun hHeld => ?_; clear hK K; (try simp only [pQ]); refine ry [5] ?_; refine rd1 fun K hK => ?_; refine st_of rfl ?_; refine wp_build2C hC (by rfl) (by rfl) (by rfl) ?_; clear hC; intro W k hC; refine hK.out _ _ hC.hb1' fun hHeld => ?_; clear hK K; (try simp only [pQ]); refine ry [6] ?_; refine rd1 fun K hK => ?_; go_simp; (first | (go_at_call 33; guard_target = Calls _ _ #[_, _, _, Value.slice none 0 0] _ _; (first | refine useRD (q_rnode0 hC _ _ _) ?_); clear hC; intro W ao cap hC) | (go_at_call 33; guard_target = Calls _ _ #[_, _, _, Value.slice (some _) 2 2] _ _; refine m6 ?_; clear hC; intro W ao cap hC)); refine hK.out _ _ hC.hb1' fun hHeld => ?_; clear hK K; (try simp only [pQ]); refine ry [7] ?_; refine rd1 fun K hK => ?_; refine st_of rfl ?_; refine wsN ?_; clear hC; intro W hC; refine hK.out _ _ hC.hb1' fun hHeld => ?_; clear hK K; (try simp only [pQ]); refine dn ?_ _)
  | (go_at_call 33; guard_target = Calls _ _ #[_, _, _, Value.slice none 0 0] _ _; (first | refine useRD (q_rnode0 hC _ _ _) ?_); clear hC; intro W ao cap hC)
  | (go_at_call 33; guard_target = Calls _ _ #[_, _, _, Value.slice (some _) 2 2] _ _; refine m6 ?_; clear hC; intro W ao cap hC))
  all_goals (refine hC.rc ?_; first | exact endRN HO (hC.fin mSub mMem mL) | exact endR0 HO (hC.fin mSub mMem mL))
end Go.Proofs.YtaenpacfbheppaaGreatDoor
namespace Go.Proofs.YtaenpacfbheppaaGreatDoor
open Go.RowKit
def qryX (R : Rc) (ts : List Tok) : Option (Tr × List Tok) := bd (R.body ts) fun b r => ow [111, 114, 100, 101, 114] r (fun r1 => (needF [[98, 121]] r1).bind fun r2 => bd (keyF r2) fun x r3 => bd (lsN keyF (r3.length + 1) [x] r3) (fun l r4 => some (nd [113, 117, 101, 114, 121] [] [b, nd [111, 114, 100, 101, 114] [] l], r4))) (some (nd [113, 117, 101, 114, 121] [] [b, nd [111, 114, 100, 101, 114] [] []], r))
theorem qryX_eq (R : Rc) : qryD R = qryX R := by
  funext ts
  unfold qryD qryX
  cases R.body ts with
  | none => rfl
  | some p =>
    obtain ⟨b, r⟩ := p
    rw [bd_at]
    cases h : tkB [[111, 114, 100, 101, 114]] r with
    | true =>
      rw [ow_t h]
      simp only [h, if_true]
      cases needF [[98, 121]] (tkR [[111, 114, 100, 101, 114]] r) with
      | none => rfl
      | some r1 =>
        simp only [Option.bind_some]
        rw [← lsF_x]
        cases lsF keyF r1 <;> rfl
    | false =>
      rw [ow_f h]
      simp only [h, Bool.false_eq_true, if_false]
theorem keyF_Len2 {ts r : List Tok} {x : Tr} (h : keyF ts = some (x, r)) : r.length ≤ ts.length := by
  have := @colF_len
  unfold keyF kbyF at h
  grind [→ numF_len, → colF_len, tkR_len]
theorem q_rquery {E : Env} {B : Nat} {w0 w : World} {st : Option (List Tok)} {H : List Bx} {L : List Tn} {R : Rc} {n : Nat} (RC : Cw E R n) (hg : GoodE E) (hC : Cx E B w0 w (.r st) H L) (hn : sl st < n) :
    Calls Tryz.prog 30 #[.pointer (some ⟨E.b, 0, none⟩)] w (RN E B w0 H L (st.bind (qryD R))) := by
  obtain ⟨o, ho⟩ : ∃ o, st.bind (qryD R) = o := ⟨_, rfl⟩
  rw [ho]
  rw [qryX_eq] at ho
  unfold qryX at ho
  have HO := hidk ho
  clear ho
  have h601 := hC.rsl
  go_enter Tryz.func30, Tryz.ntmps30
  go_wp2_with (first
  | (guard_target = wpList _ _ _ (Oper.mk (some 2) (Op.alloc 24) _ _ _ _ :: _) _ _; refine hC.aN ?_; clear hC; intro W kR hC; (try simp only [pP]))
  | (guard_target = wpList _ _ _ (Oper.mk (some 3) (Op.alloc 24) _ _ _ _ :: _) _ _; refine hC.aN ?_; clear hC; intro W kB hC; (try simp only [pP]))
  | (refine bA ?_; clear hC; intro W k hC)
  | refine bL ?_
  | (refine bS ?_; clear hC; intro W hC)
  | (go_at_call 63; refine uN (RC.body hC (by omega)) HO ?_; clear hC HO; intro b st2 W aB pB he hC HO; have hl := sl_of RC.len.body he; clear he)
  | (go_at_call 15; refine aGot ?_ ?_ <;> clear hC HO; (focus (intro ts r W hC e hl HO; first | (cases e; done) | cases e)); rotate_left; (focus (intro hC HO)); rotate_left)
  | (go_at_call 35; refine aMust ?_; clear hC HO; intro st2 W hC hl HO)
  | (go_at_call 64; refine uN (q_rkey hg hC) HO ?_; clear hC HO; intro t st2 W ao cap he hC HO; have hl := sl_of (fun ts x r h => keyF_Len2 h) he; clear he)
  | (at_builtin; refine wl_app0B rfl hC (.head _) (by rfl) (by rfl) (by rfl) ?_; clear hC; intro W k3 cap3 cur3 hC hR3 hN3; (try simp only [pP]))
  | (guard_target = Code.wp _ (Code.region 10 _ true) _ _ _; refine wp_region_held_drew (S := HB [_]) (by kernel_rfl) (hC.drew.hbI1 0 (by rfl)) (fun hHeld => ?_); replace hC := hC.drew; refine qkN 0 ?_; (try simp only [pQ]); refine qk 1 ?_; (try simp only [pQ]); refine ry [2] ?_; refine rd1 fun K hK => ?_; go_simp; (first | (go_at_call 33; guard_target = Calls _ _ #[_, _, _, Value.slice none 0 0] _ _; (first | refine useRD (q_rnode0 hC _ _ _) ?_); clear hC; intro W ao cap hC) | (go_at_call 33; guard_target = Calls _ _ #[_, _, _, Value.slice (some _) 2 2] _ _; refine m10 ?_; clear hC; intro W ao cap hC)); refine hK.out _ _ hC.hb1' fun hHeld => ?_; clear hK K; (try simp only [pQ]); refine ry [3] ?_; refine rd1 fun K hK => ?_; refine st_of rfl ?_; refine wp_build2C hC (by rfl) (by rfl) (by rfl) ?_; clear hC; intro W k hC; refine hK.out _ _ hC.hb1' fun hHeld => ?_; clear hK K; (try simp only [pQ]); refine ry [4] ?_; refine rd1 fun K hK => ?_; go_simp; (first | (go_at_call 33; guard_target = Calls _ _ #[_, _, _, Value.slice none 0 0] _ _; (first | refine useRD (q_rnode0 hC _ _ _) ?_); clear hC; intro W ao cap hC) | (go_at_call 33; guard_target = Calls _ _ #[_, _, _, Value.slice (some _) 2 2] _ _; refine m10 ?_; clear hC; intro W ao cap hC)); refine hK.out _ _ hC.hb1' fun hHeld => ?_; clear hK K; (try simp only [pQ]); refine ry [5] ?_; refine rd1 fun K hK => ?_; refine st_of rfl ?_; refine wsN ?_; clear hC; intro W hC; refine hK.out _ _ hC.hb1' fun hHeld => ?_; clear hK K; (try simp only [pQ]); refine dn ?_ _)
  | (go_at_call 33; guard_target = Calls _ _ #[_, _, _, Value.slice (some _) 1 1] _ _; refine m5 ?_; clear hC; intro W ao cap hC))
  all_goals (try (solve | (refine hC.rc ?_; refine endRN HO (hC.fin ?_ ?_ ?_); (repeat (first | exact List.Sublist.refl _ | apply List.Sublist.cons)); (repeat (first | exact List.mem_cons_self | apply List.mem_cons_of_mem)); intro y hy; first | ((repeat (first | exact hy | apply List.mem_cons_of_mem)); done) | (have hy := hS.out y hy; (repeat (first | exact hy | apply List.mem_cons_of_mem)); done))))
  go_loopg [4] (sl st2) (fun kx sv wr => ∃ (k : Nat) (l : List Tr) (cp : Nat) (cur : List Value) (ks : List Kid) (L' : List Tn) (st' : Option (List Tok)) (f : Nat), sv = .slice (some ⟨k, 0, none⟩) l.length cp ∧ sl st' ≤ kx ∧ Hid (Cx E B w0 wr (.r st') ((k, cur, 24) :: (kB, ncs aB pB b, 24) :: (kR, [.string ⟨#[]⟩, .string ⟨#[]⟩, .int .i64 0, .slice none 0 0], 24) :: H) L') ∧ Hid (Rw cp l ks cur) ∧ Hid (Rin ks l L') ∧ Hid (∀ y ∈ L, y ∈ L') ∧ Hid ((aB, pB, b) ∈ L') ∧ Hid (st'.bind (fun ts => bd (lsN keyF f l ts) (fun l r4 => some (nd [113, 117, 101, 114, 121] [] [b, nd [111, 114, 100, 101, 114] [] l], r4))) = o) ∧ sl st' ≤ f ∧ l.length + sl st' ≤ 602 ∧ sl st' ≤ sl st ∧ 0 < l.length)
  case atStart => exact ⟨_, [t], _, _, _, _, st2, sl st2, rfl, Nat.le_refl _, hC, hR3, hN3, mL, .tail _ (.head _), startL HO.out, Nat.le_refl _, by simp; omega, by omega, by simp⟩
  case round =>
    rename World => wr
    clear hC HO hR3 hN3
    obtain ⟨k, l, cp, cur, ks, L', st', f, rfl, hk, hC', hR, hN, hS, hM, HO2, hf, h6, hst, h0⟩ := hrel
    have hC := hC'.out
    clear hC'
    unfold ncs at hC
    cases st' with
    | none =>
      have HO : Hid ((none : Option (List Tok)).bind ((fun l r4 => some (nd [113, 117, 101, 114, 121] [] [b, nd [111, 114, 100, 101, 114] [] l], r4)) l) = o) := HO2.out
      clear HO2
      go_wp2_with (first
      | refine bL ?_
      | (refine bA ?_; clear hC; intro W k hC)
      | (refine bS ?_; clear hC; intro W hC)
      | (guard_target = Code.wp _ (Code.region 10 _ true) _ _ _; refine wp_region_held_drew (S := HB [_]) (by kernel_rfl) (hC.drew.hbI1 1 (by rfl)) (fun hHeld => ?_); replace hC := hC.drew; refine qkN 0 ?_; (try simp only [pQ]); refine qk 1 ?_; (try simp only [pQ]); refine ry [2] ?_; refine rd1 fun K hK => ?_; go_simp; (first | (go_at_call 33; guard_target = Calls _ _ #[_, _, _, Value.slice (some _) (List.length _) _] _ _; have hD := hC; clear hC; have hE := hD.madeAt 0 (by rfl) hR.out hN.out h0 [] [] 0; simp only [List.eraseIdx_cons_zero, List.eraseIdx_cons_succ] at hE; refine useRD (q_rnodeL _ _ _ hE (.head _) rfl (by first | omega | (simp; omega))) ?_; intro W aO pO hC; clear hD hE) | (go_at_call 33; guard_target = Calls _ _ #[_, _, _, Value.slice (some _) 2 2] _ _; refine m10 ?_; clear hC; intro W ao cap hC)); refine hK.out _ _ hC.hb1' fun hHeld => ?_; clear hK K; (try simp only [pQ]); refine ry [3] ?_; refine rd1 fun K hK => ?_; refine st_of rfl ?_; refine wp_build2C hC (by rfl) (by rfl) (by rfl) ?_; clear hC; intro W k hC; refine hK.out _ _ hC.hb1' fun hHeld => ?_; clear hK K; (try simp only [pQ]); refine ry [4] ?_; refine rd1 fun K hK => ?_; go_simp; (first | (go_at_call 33; guard_target = Calls _ _ #[_, _, _, Value.slice (some _) (List.length _) _] _ _; have hD := hC; clear hC; have hE := hD.madeAt 0 (by rfl) hR.out hN.out h0 [] [] 0; simp only [List.eraseIdx_cons_zero, List.eraseIdx_cons_succ] at hE; refine useRD (q_rnodeL _ _ _ hE (.head _) rfl (by first | omega | (simp; omega))) ?_; intro W aO pO hC; clear hD hE) | (go_at_call 33; guard_target = Calls _ _ #[_, _, _, Value.slice (some _) 2 2] _ _; refine m10 ?_; clear hC; intro W ao cap hC)); refine hK.out _ _ hC.hb1' fun hHeld => ?_; clear hK K; (try simp only [pQ]); refine ry [5] ?_; refine rd1 fun K hK => ?_; refine st_of rfl ?_; refine wsN ?_; clear hC; intro W hC; refine hK.out _ _ hC.hb1' fun hHeld => ?_; clear hK K; (try simp only [pQ]); refine dn ?_ _))
      all_goals (refine hC.rc ?_; refine endRN HO (hC.fin ?_ ?_ ?_); (repeat (first | exact List.Sublist.refl _ | apply List.Sublist.cons)); (repeat (first | exact List.mem_cons_self | apply List.mem_cons_of_mem)); intro y hy; first | ((repeat (first | exact hy | apply List.mem_cons_of_mem)); done) | (have hy := hS.out y hy; (repeat (first | exact hy | apply List.mem_cons_of_mem)); done))
    | some ts0 =>
      have hp0 := sl_pos ts0
      obtain ⟨f, rfl⟩ : ∃ f', f = f' + 1 := ⟨f - 1, by omega⟩
      have HO3 := hidk (lsN_go (J := fun r k => bd (keyF r) k) (fun r k => rfl) HO2.out)
      have HO : Hid ((some ts0).bind (fun ts => og (sgF [44] ts) (fun _ r => bd (keyF r) (fun x r2 => bd (lsN keyF f (l ++ [x]) r2) (fun l r4 => some (nd [113, 117, 101, 114, 121] [] [b, nd [111, 114, 100, 101, 114] [] l], r4)))) ((fun l r4 => some (nd [113, 117, 101, 114, 121] [] [b, nd [111, 114, 100, 101, 114] [] l], r4)) l ts)) = o) := HO3.out
      clear HO2 HO3
      go_wp2_with (first
      | refine bL ?_
      | (refine bA ?_; clear hC; intro W k hC)
      | (refine bS ?_; clear hC; intro W hC)
      | (go_at_call 15; refine aGot ?_ ?_ <;> clear hC HO; (focus (intro ts r W hC e hl HO; first | (cases e; done) | cases e)); rotate_left; (focus (intro hC HO)); rotate_left)
      | (go_at_call 64; refine uN (q_rkey hg hC) HO ?_; clear hC HO; intro t st2 W ao cap he hC HO; have hl := sl_of (fun ts x r h => keyF_Len2 h) he; clear he)
      | (at_builtin; have hD := hC; clear hC; refine wl_app1 rfl hD (.head _) 0 (by rfl) (by rfl) (by rfl) rfl hR.out (hN.out.mono mL) (by rfl) (by omega) ?_; clear hD; intro W k cap2 cur2 hC hR2 hN2; simp only [pS] at hC; (try simp only [pP]))
      | (guard_target = Code.wp _ (Code.region 10 _ true) _ _ _; refine wp_region_held_drew (S := HB [_]) (by kernel_rfl) (hC.drew.hbI1 1 (by rfl)) (fun hHeld => ?_); replace hC := hC.drew; refine qkN 0 ?_; (try simp only [pQ]); refine qk 1 ?_; (try simp only [pQ]); refine ry [2] ?_; refine rd1 fun K hK => ?_; go_simp; (first | (go_at_call 33; guard_target = Calls _ _ #[_, _, _, Value.slice (some _) (List.length _) _] _ _; have hD := hC; clear hC; have hE := hD.madeAt 0 (by rfl) hR.out hN.out h0 [] [] 0; simp only [List.eraseIdx_cons_zero, List.eraseIdx_cons_succ] at hE; refine useRD (q_rnodeL _ _ _ hE (.head _) rfl (by first | omega | (simp; omega))) ?_; intro W aO pO hC; clear hD hE) | (go_at_call 33; guard_target = Calls _ _ #[_, _, _, Value.slice (some _) 2 2] _ _; refine m10 ?_; clear hC; intro W ao cap hC)); refine hK.out _ _ hC.hb1' fun hHeld => ?_; clear hK K; (try simp only [pQ]); refine ry [3] ?_; refine rd1 fun K hK => ?_; refine st_of rfl ?_; refine wp_build2C hC (by rfl) (by rfl) (by rfl) ?_; clear hC; intro W k hC; refine hK.out _ _ hC.hb1' fun hHeld => ?_; clear hK K; (try simp only [pQ]); refine ry [4] ?_; refine rd1 fun K hK => ?_; go_simp; (first | (go_at_call 33; guard_target = Calls _ _ #[_, _, _, Value.slice (some _) (List.length _) _] _ _; have hD := hC; clear hC; have hE := hD.madeAt 0 (by rfl) hR.out hN.out h0 [] [] 0; simp only [List.eraseIdx_cons_zero, List.eraseIdx_cons_succ] at hE; refine useRD (q_rnodeL _ _ _ hE (.head _) rfl (by first | omega | (simp; omega))) ?_; intro W aO pO hC; clear hD hE) | (go_at_call 33; guard_target = Calls _ _ #[_, _, _, Value.slice (some _) 2 2] _ _; refine m10 ?_; clear hC; intro W ao cap hC)); refine hK.out _ _ hC.hb1' fun hHeld => ?_; clear hK K; (try simp only [pQ]); refine ry [5] ?_; refine rd1 fun K hK => ?_; refine st_of rfl ?_; refine wsN ?_; clear hC; intro W hC; refine hK.out _ _ hC.hb1' fun hHeld => ?_; clear hK K; (try simp only [pQ]); refine dn ?_ _)
      | (go_at_call 33; guard_target = Calls _ _ #[_, _, _, Value.slice (some _) 1 1] _ _; refine m5 ?_; clear hC; intro W ao cap hC))
      · go_roundg (sl st2)
        case measure => omega
        case rel => exact ⟨k, l ++ [t], cap2, cur2, _, _, st2, f, (by simp), Nat.le_refl _, hC, hR2, hN2, (mS hS.out), (by have hy := hM.out; (repeat (first | exact hy | apply List.mem_cons_of_mem)); done), HO, by omega, by simp; omega, by omega, by simp⟩
      all_goals (refine hC.rc ?_; refine endRN HO (hC.fin ?_ ?_ ?_); (repeat (first | exact List.Sublist.refl _ | apply List.Sublist.cons)); (repeat (first | exact List.mem_cons_self | apply List.mem_cons_of_mem)); intro y hy; first | ((repeat (first | exact hy | apply List.mem_cons_of_mem)); done) | (have hy := hS.out y hy; (repeat (first | exact hy | apply List.mem_cons_of_mem)); done))
end Go.Proofs.YtaenpacfbheppaaGreatDoor
namespace Go.Proofs.YtaenpacfbheppaaGreatDoor
open Go.RowKit
def creX (R : Rc) (ts : List Tok) : Option (Tr × List Tok) := ow [116, 97, 98, 108, 101] ts (fun r => bd (nameF r) fun s r2 => bd (sgF [40] r2) fun _ r3 => bd (eleD R r3) fun x r4 => bd (lsN (eleD R) (r4.length + 1) [x] r4) (fun l r5 => bd (sgF [41] r5) fun _ r6 => some (nd [99, 114, 101, 97, 116, 101, 32, 116, 97, 98, 108, 101] s l, r6))) (ow [117, 110, 105, 113, 117, 101] ts (fun r => (needF [[105, 110, 100, 101, 120]] r).bind fun r2 => bd (nameF r2) fun s r3 => (needF [[111, 110]] r3).bind fun r4 => bd (nameF r4) fun t r5 => bd (namesF r5) fun l r6 => some (.mk [99, 114, 101, 97, 116, 101, 32, 105, 110, 100, 101, 120] s 1 (nd [111, 110] t [] :: l), r6)) ((needF [[105, 110, 100, 101, 120]] ts).bind fun r2 => bd (nameF r2) fun s r3 => (needF [[111, 110]] r3).bind fun r4 => bd (nameF r4) fun t r5 => bd (namesF r5) fun l r6 => some (.mk [99, 114, 101, 97, 116, 101, 32, 105, 110, 100, 101, 120] s 0 (nd [111, 110] t [] :: l), r6)))
theorem cix_x (u : Int) (r : List Tok) : (match needF [[105, 110, 100, 101, 120]] r with | none => none | some r2 => cixF u r2) = (needF [[105, 110, 100, 101, 120]] r).bind fun r2 => bd (nameF r2) fun s r3 => (needF [[111, 110]] r3).bind fun r4 => bd (nameF r4) fun t r5 => bd (namesF r5) fun l r6 => some (.mk [99, 114, 101, 97, 116, 101, 32, 105, 110, 100, 101, 120] s u (nd [111, 110] t [] :: l), r6) := by
  cases needF [[105, 110, 100, 101, 120]] r with
  | none => rfl
  | some r2 =>
    simp only [Option.bind_some]
    unfold cixF bd
    cases nameF r2 with
    | none => rfl
    | some p =>
      simp only
      cases needF [[111, 110]] p.2 with
      | none => rfl
      | some r4 =>
        simp only [Option.bind_some]
        cases nameF r4 with
        | none => rfl
        | some q =>
          simp only
          cases namesF q.2 <;> rfl
theorem crt_x (R : Rc) (r : List Tok) : crtD R r = bd (nameF r) fun s r2 => bd (sgF [40] r2) fun _ r3 => bd (eleD R r3) fun x r4 => bd (lsN (eleD R) (r4.length + 1) [x] r4) (fun l r5 => bd (sgF [41] r5) fun _ r6 => some (nd [99, 114, 101, 97, 116, 101, 32, 116, 97, 98, 108, 101] s l, r6)) := by
  unfold crtD
  cases nameF r with
  | none => rfl
  | some p =>
    obtain ⟨s, r2⟩ := p
    rw [bd_at]
    show (match parF (lsF (eleD R)) r2 with | none => none | some (l, r2) => some (nd [99, 114, 101, 97, 116, 101, 32, 116, 97, 98, 108, 101] s l, r2)) = _
    rw [parX_eq]
    unfold parX
    cases sgF [40] r2 with
    | none => rfl
    | some q =>
      obtain ⟨_, r3⟩ := q
      rw [bd_at, bd_at, ← lsF_x]
      cases lsF (eleD R) r3 with
      | none => rfl
      | some z =>
        obtain ⟨l, r5⟩ := z
        rw [bd_at, bd_at]
        cases sgF [41] r5 <;> rfl
theorem creX_eq (R : Rc) : creD R = creX R := by
  funext ts
  unfold creD creX
  cases h : tkB [[116, 97, 98, 108, 101]] ts with
  | true =>
    rw [ow_t h]
    simp only [if_true]
    exact crt_x R _
  | false =>
    rw [ow_f h]
    simp only [Bool.false_eq_true, if_false]
    refine (cix_x _ _).trans ?_
    cases h1 : tkB [[117, 110, 105, 113, 117, 101]] ts with
    | true => rw [ow_t h1]; rfl
    | false => rw [ow_f h1, tkR_no1 h1]; rfl
theorem namesF_len2 {ts r : List Tok} {l : List Tr} (h : namesF ts = some (l, r)) : r.length ≤ ts.length := by
  have : Len namF := fun ts x r h => by
    unfold namF at h
    grind [→ nameF_len]
  unfold namesF at h
  have := parF_len (lsF_Len this) h
  omega
theorem q_rcreate {E : Env} {B : Nat} {w0 w : World} {st : Option (List Tok)} {H : List Bx} {L : List Tn} {R : Rc} {n : Nat} (HE : ∀ {B : Nat} {w0 w : World} {st : Option (List Tok)} {H : List Bx} {L : List Tn}, Cx E B w0 w (.r st) H L → sl st ≤ n → Calls Tryz.prog 65 #[.pointer (some ⟨E.b, 0, none⟩)] w (RN E B w0 H L (st.bind (eleD R)))) (hHE : Len (eleD R)) (hg : GoodE E) (hC : Cx E B w0 w (.r st) H L) (hn : sl st ≤ n) :
    Calls Tryz.prog 32 #[.pointer (some ⟨E.b, 0, none⟩)] w (RN E B w0 H L (st.bind (creD R))) := by
  obtain ⟨o, ho⟩ : ∃ o, st.bind (creD R) = o := ⟨_, rfl⟩
  rw [ho]
  rw [creX_eq] at ho
  unfold creX at ho
  have HO := hidk ho
  clear ho
  have h601 := hC.rsl
  go_enter Tryz.func32, Tryz.ntmps32
  go_wp2_with (first
  | (guard_target = wpList _ _ _ (Oper.mk (some 2) (Op.alloc 24) _ _ _ _ :: _) _ _; refine hC.aN ?_; clear hC; intro W kR hC; (try simp only [pP]))
  | (refine bA ?_; clear hC; intro W k hC)
  | refine bL ?_
  | (refine bS ?_; clear hC; intro W hC)
  | (go_at_call 15; refine aGot ?_ ?_ <;> clear hC HO; (focus (intro ts r W hC e hl HO; first | (cases e; done) | cases e)); rotate_left; (focus (intro hC HO)); rotate_left)
  | (go_at_call 35; refine aMust ?_; clear hC HO; intro st2 W hC hl HO)
  | (go_at_call 34; refine aName ?_; clear hC HO; intro s st2 W hC hl HO)
  | (go_at_call 65; refine uN (HE hC (by omega)) HO ?_; clear hC HO; intro t st2 W ao cap he hC HO; have hl := sl_of hHE he; clear he)
  | (go_at_call 33; guard_target = Calls _ _ #[_, _, _, Value.slice none 0 0] _ _; (first | refine useRD (q_rnode0 hC _ _ _) ?_); clear hC; intro W ao cap hC)
  | (go_at_call 33; guard_target = Calls _ _ #[_, _, _, Value.slice (some _) 1 1] _ _; refine m5 ?_; clear hC; intro W ao cap hC)
  | (guard_target = Code.wp _ (Code.region 18 _ true) _ _ _; refine wp_region_held_drew (S := HB [_]) (by kernel_rfl) (hC.drew.hbI1 0 (by rfl)) (fun hHeld => ?_); replace hC := hC.drew; refine qk 0 ?_; (try simp only [pQ]); refine qk 1 ?_; (try simp only [pQ]); refine qkN 2 ?_; (try simp only [pQ]); refine qk 4 ?_; (try simp only [pQ]); refine ry [3, 5] ?_; refine AllReadyH.cons rfl (fun K hK => ?_) (AllReadyH.cons rfl (fun K hK => ?_) AllReadyH.nil); (focus (refine st_of rfl ?_; refine wp_build1C hC (by rfl) (by rfl) ?_; clear hC; intro W k hC; refine hK.out _ _ hC.hb1' fun hHeld => ?_; clear hK K; (try simp only [pQ]); refine ry [5] ?_; refine rd1 fun K hK => ?_; go_simp; (first | (go_at_call 66; refine useRL (q_rnames hg hC) ?_; clear hC; intro l st2 W ao cap he hC h0l h1l; have hl := sl_of (fun ts x r h => namesF_len2 h) he; replace HO := hidk (bindN he HO.out); clear he)); refine hK.out _ _ hC.hb1' fun hHeld => ?_; clear hK K; (try simp only [pQ]); refine ry [6] ?_; refine rd1 fun K hK => ?_; (first | (refine st_of rfl ?_; refine wp_appL hC (.tail _ (.head _)) (by rfl) (by rfl) (.head _) (by rfl) rfl (by omega) (by omega) ?_; clear hC; intro W g2 cap2 hC)); refine hK.out _ _ hC.hb1' fun hHeld => ?_; clear hK K; (try simp only [pQ]); refine ry [7] ?_; refine rd1 fun K hK => ?_; go_simp; (first | (go_at_call 33; have hD := hC; clear hC; (first | refine useRD (q_rnodeL _ _ _ hD (.head _) (by simp) (by simp; omega)) ?_); intro W ao cap hC; clear hD)); refine hK.out _ _ hC.hb1' fun hHeld => ?_; clear hK K; (try simp only [pQ]); refine ry [8] ?_; refine rd1 fun K hK => ?_; refine st_of rfl ?_; refine wsN ?_; clear hC; intro W hC; refine hK.out _ _ hC.hb1' fun hHeld => ?_; clear hK K; (try simp only [pQ]); refine dn ?_ _)); rotate_left; (focus (go_simp; (first | (go_at_call 66; refine useRL (q_rnames hg hC) ?_; clear hC; intro l st2 W ao cap he hC h0l h1l; have hl := sl_of (fun ts x r h => namesF_len2 h) he; replace HO := hidk (bindN he HO.out); clear he)); refine hK.out _ _ hC.hb1' fun hHeld => ?_; clear hK K; (try simp only [pQ]); refine ry [3] ?_; refine rd1 fun K hK => ?_; refine st_of rfl ?_; refine wp_build1C hC (by rfl) (by rfl) ?_; clear hC; intro W k hC; refine hK.out _ _ hC.hb1' fun hHeld => ?_; clear hK K; (try simp only [pQ]); refine ry [6] ?_; refine rd1 fun K hK => ?_; (first | (refine st_of rfl ?_; refine wp_appL hC (.tail _ (.head _)) (by rfl) (by rfl) (.head _) (by rfl) rfl (by omega) (by omega) ?_; clear hC; intro W g2 cap2 hC)); refine hK.out _ _ hC.hb1' fun hHeld => ?_; clear hK K; (try simp only [pQ]); refine ry [7] ?_; refine rd1 fun K hK => ?_; go_simp; (first | (go_at_call 33; have hD := hC; clear hC; (first | refine useRD (q_rnodeL _ _ _ hD (.head _) (by simp) (by simp; omega)) ?_); intro W ao cap hC; clear hD)); refine hK.out _ _ hC.hb1' fun hHeld => ?_; clear hK K; (try simp only [pQ]); refine ry [8] ?_; refine rd1 fun K hK => ?_; refine st_of rfl ?_; refine wsN ?_; clear hC; intro W hC; refine hK.out _ _ hC.hb1' fun hHeld => ?_; clear hK K; (try simp only [pQ]); refine dn ?_ _)); rotate_left)
  | (go_at_call 33; have hD := hC; clear hC; (first | refine useRD (q_rnodeL _ _ _ hD (.head _) (by simp) (by simp; omega)) ?_); intro W ao cap hC; clear hD))
  all_goals (try (solve | (refine hC.rc ?_; refine endRN HO (hC.fin ?_ ?_ ?_); (repeat (first | exact List.Sublist.refl _ | apply List.Sublist.cons)); (repeat (first | exact List.mem_cons_self | apply List.mem_cons_of_mem)); intro y hy; first | ((repeat (first | exact hy | apply List.mem_cons_of_mem)); done) | (have hy := hS.out y hy; (repeat (first | exact hy | apply List.mem_cons_of_mem)); done))))
  go_loopg [4] (sl st2) (fun kx sv wr => ∃ (k : Nat) (l : List Tr) (cp : Nat) (cur : List Value) (ks : List Kid) (L' : List Tn) (st' : Option (List Tok)) (f : Nat), sv = .slice (some ⟨k, 0, none⟩) l.length cp ∧ sl st' ≤ kx ∧ Hid (Cx E B w0 wr (.r st') ((k, cur, 24) :: (kR, [.string ⟨#[]⟩, .string ⟨#[]⟩, .int .i64 0, .slice none 0 0], 24) :: H) L') ∧ Hid (Rw cp l ks cur) ∧ Hid (Rin ks l L') ∧ Hid (∀ y ∈ L, y ∈ L') ∧ Hid (st'.bind (fun ts => bd (lsN (eleD R) f l ts) (fun l r5 => bd (sgF [41] r5) fun _ r6 => some (nd [99, 114, 101, 97, 116, 101, 32, 116, 97, 98, 108, 101] s l, r6))) = o) ∧ sl st' ≤ f ∧ l.length + sl st' ≤ 602 ∧ sl st' ≤ n ∧ 0 < l.length)
  case atStart => exact ⟨_, [t], 1, _, _, _, st2, sl st2, rfl, Nat.le_refl _, hC, Rw.one, Rin.one (.head _), mL, startL HO.out, Nat.le_refl _, by simp; omega, by omega, by simp⟩
  case round =>
    rename World => wr
    clear hC HO
    obtain ⟨k, l, cp, cur, ks, L', st', f, rfl, hk, hC', hR, hN, hS, HO2, hf, h6, hst, h0⟩ := hrel
    have hC := hC'.out
    clear hC'
    cases st' with
    | none =>
      have HO : Hid ((none : Option (List Tok)).bind ((fun l r5 => bd (sgF [41] r5) fun _ r6 => some (nd [99, 114, 101, 97, 116, 101, 32, 116, 97, 98, 108, 101] s l, r6)) l) = o) := HO2.out
      clear HO2
      go_wp2_with (first
      | refine bL ?_
      | (refine bA ?_; clear hC; intro W k hC)
      | (refine bS ?_; clear hC; intro W hC)
      | (go_at_call 35; refine aMust ?_; clear hC HO; intro st2 W hC hl HO)
      | (go_at_call 33; guard_target = Calls _ _ #[_, _, _, Value.slice (some _) (List.length _) _] _ _; have hD := hC; clear hC; have hE := hD.madeAt 0 (by rfl) hR.out hN.out h0 [] [] 0; simp only [List.eraseIdx_cons_zero, List.eraseIdx_cons_succ] at hE; refine useRD (q_rnodeL _ _ _ hE (.head _) rfl (by first | omega | (simp; omega))) ?_; intro W aO pO hC; clear hD hE))
      all_goals (refine hC.rc ?_; refine endRN HO (hC.fin ?_ ?_ ?_); (repeat (first | exact List.Sublist.refl _ | apply List.Sublist.cons)); (repeat (first | exact List.mem_cons_self | apply List.mem_cons_of_mem)); intro y hy; first | ((repeat (first | exact hy | apply List.mem_cons_of_mem)); done) | (have hy := hS.out y hy; (repeat (first | exact hy | apply List.mem_cons_of_mem)); done))
    | some ts0 =>
      have hp0 := sl_pos ts0
      obtain ⟨f, rfl⟩ : ∃ f', f = f' + 1 := ⟨f - 1, by omega⟩
      have HO3 := hidk (lsN_go (J := fun r k => bd (eleD R r) k) (fun r k => rfl) HO2.out)
      have HO : Hid ((some ts0).bind (fun ts => og (sgF [44] ts) (fun _ r => bd (eleD R r) (fun x r2 => bd (lsN (eleD R) f (l ++ [x]) r2) (fun l r5 => bd (sgF [41] r5) fun _ r6 => some (nd [99, 114, 101, 97, 116, 101, 32, 116, 97, 98, 108, 101] s l, r6)))) ((fun l r5 => bd (sgF [41] r5) fun _ r6 => some (nd [99, 114, 101, 97, 116, 101, 32, 116, 97, 98, 108, 101] s l, r6)) l ts)) = o) := HO3.out
      clear HO2 HO3
      go_wp2_with (first
      | refine bL ?_
      | (refine bA ?_; clear hC; intro W k hC)
      | (refine bS ?_; clear hC; intro W hC)
      | (go_at_call 15; refine aGot ?_ ?_ <;> clear hC HO; (focus (intro ts r W hC e hl HO; first | (cases e; done) | cases e)); rotate_left; (focus (intro hC HO)); rotate_left)
      | (go_at_call 65; refine uN (HE hC (by omega)) HO ?_; clear hC HO; intro t st2 W ao cap he hC HO; have hl := sl_of hHE he; clear he)
      | (at_builtin; have hD := hC; clear hC; refine wl_app1 rfl hD (.head _) 0 (by rfl) (by rfl) (by rfl) rfl hR.out (hN.out.mono mL) (by rfl) (by omega) ?_; clear hD; intro W k cap2 cur2 hC hR2 hN2; simp only [pS] at hC; (try simp only [pP]))
      | (go_at_call 35; refine aMust ?_; clear hC HO; intro st2 W hC hl HO)
      | (go_at_call 33; guard_target = Calls _ _ #[_, _, _, Value.slice (some _) (List.length _) _] _ _; have hD := hC; clear hC; have hE := hD.madeAt 0 (by rfl) hR.out hN.out h0 [] [] 0; simp only [List.eraseIdx_cons_zero, List.eraseIdx_cons_succ] at hE; refine useRD (q_rnodeL _ _ _ hE (.head _) rfl (by first | omega | (simp; omega))) ?_; intro W aO pO hC; clear hD hE)
      | (go_at_call 33; guard_target = Calls _ _ #[_, _, _, Value.slice (some _) 1 1] _ _; refine m5 ?_; clear hC; intro W ao cap hC))
      · go_roundg (sl st2)
        case measure => omega
        case rel => exact ⟨k, l ++ [t], cap2, cur2, _, _, st2, f, (by simp), Nat.le_refl _, hC, hR2, hN2, (mS hS.out), HO, by omega, by simp; omega, by omega, by simp⟩
      all_goals (refine hC.rc ?_; refine endRN HO (hC.fin ?_ ?_ ?_); (repeat (first | exact List.Sublist.refl _ | apply List.Sublist.cons)); (repeat (first | exact List.mem_cons_self | apply List.mem_cons_of_mem)); intro y hy; first | ((repeat (first | exact hy | apply List.mem_cons_of_mem)); done) | (have hy := hS.out y hy; (repeat (first | exact hy | apply List.mem_cons_of_mem)); done))
end Go.Proofs.YtaenpacfbheppaaGreatDoor
