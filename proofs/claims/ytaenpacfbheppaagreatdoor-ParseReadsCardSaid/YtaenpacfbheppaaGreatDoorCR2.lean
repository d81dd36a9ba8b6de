/- The document's reader: columns (walks by genr.py). -/
import Derived.Test.YtaenpacfbheppaaGreatDoorCR1
set_option maxHeartbeats 16000000
set_option maxRecDepth 100000
set_option linter.unusedVariables false
set_option linter.unusedSimpArgs false
namespace Go.Proofs.YtaenpacfbheppaaGreatDoor
open Go.RowKit
section
variable {E : Env} {B : Nat} {w0 w : World} {st : Option (List Tok)} {H : List Bx} {L : List Tn} {f : Nat} {args : Array Value} {R : Ending → World → Prop}
theorem useRN {o : Option (Tr × List Tok)} (h : Calls Tryz.prog f args w (RN E B w0 H L o)) (k : ∀ t st' W ao cap, o = st'.map (Prod.mk t) → Cx E B w0 W (.r st') H ((ao, cap, t) :: L) → R (.returned (nv t.op t.s t.n ao t.L.length cap)) W) : Calls Tryz.prog f args w R := by
  refine h.mono fun e W hp => ?_
  obtain ⟨t, st', ao, cap, rfl, hC, he⟩ := hp
  exact k t st' W ao cap he hC
theorem useRL {o : Option (List Tr × List Tok)} (h : Calls Tryz.prog f args w (RL E B w0 H L o)) (k : ∀ l st' W ao cap, o = st'.map (Prod.mk l) → Cx E B w0 W (.r st') H ((ao, cap, ls l) :: L) → 0 < l.length → l.length ≤ 1000 → R (.returned (.slice ao l.length cap)) W) : Calls Tryz.prog f args w R := by
  refine h.mono fun e W hp => ?_
  obtain ⟨t, st', ao, cap, rfl, hC, he, h0, h1⟩ := hp
  exact k t st' W ao cap he hC h0 h1
theorem useRS {o : Option (List UInt8 × List Tok)} (h : Calls Tryz.prog f args w (RS E B w0 H L o)) (k : ∀ s st' W, o = st'.map (Prod.mk s) → Cx E B w0 W (.r st') H L → R (.returned (.string ⟨s.toArray⟩)) W) : Calls Tryz.prog f args w R := by
  refine h.mono fun e W hp => ?_
  obtain ⟨s, st', rfl, hC, he⟩ := hp
  exact k s st' W he hC
theorem useRI {o : Option (Int × List Tok)} (h : Calls Tryz.prog f args w (RI E B w0 H L o)) (k : ∀ n st' W, o = st'.map (Prod.mk n) → Cx E B w0 W (.r st') H L → R (.returned (.int .i64 n)) W) : Calls Tryz.prog f args w R := by
  refine h.mono fun e W hp => ?_
  obtain ⟨s, st', rfl, hC, he⟩ := hp
  exact k s st' W he hC
theorem useRD {s : Stt} {t : Tr} (h : Calls Tryz.prog f args w (RD E B w0 s H L t)) (k : ∀ W ao cap, Cx E B w0 W s H ((ao, cap, t) :: L) → R (.returned (nv t.op t.s t.n ao t.L.length cap)) W) : Calls Tryz.prog f args w R := by
  refine h.mono fun e W hp => ?_
  obtain ⟨ao, cap, rfl, hC⟩ := hp
  exact k W ao cap hC
theorem endRN {o : Option (Tr × List Tok)} {W : World} {T : Tr} (h : Hid (st.bind (fun r => some (T, r)) = o)) {ao : Option Addr} {cap : Nat} (hc : Cx E B w0 W (.r st) H ((ao, cap, T) :: L)) : RN E B w0 H L o (.returned (nv T.op T.s T.n ao T.L.length cap)) W := ⟨T, st, ao, cap, rfl, hc, bindE h.out⟩
theorem endR0 {o : Option (Tr × List Tok)} {W : World} {T : Tr} {st2 : Option (List Tok)} (h : Hid (st2.bind (fun _ => none) = o)) {ao : Option Addr} {cap : Nat} (hc : Cx E B w0 W (.r none) H ((ao, cap, T) :: L)) : RN E B w0 H L o (.returned (nv T.op T.s T.n ao T.L.length cap)) W := ⟨T, none, ao, cap, rfl, hc, bind0 h.out⟩
theorem endRL {o : Option (List Tr × List Tok)} {W : World} {l : List Tr} (h : Hid (st.bind (fun r => some (l, r)) = o)) {ao : Option Addr} {cap : Nat} (hc : Cx E B w0 W (.r st) H ((ao, cap, ls l) :: L)) (h0 : 0 < l.length) (h1 : l.length ≤ 1000) : RL E B w0 H L o (.returned (.slice ao l.length cap)) W := ⟨l, st, ao, cap, rfl, hc, bindE h.out, h0, h1⟩
theorem endRS {o : Option (List UInt8 × List Tok)} {W : World} {s : List UInt8} (h : Hid (st.bind (fun r => some (s, r)) = o)) (hc : Cx E B w0 W (.r st) H L) : RS E B w0 H L o (.returned (.string ⟨s.toArray⟩)) W := ⟨s, st, rfl, hc, bindE h.out⟩
theorem Cx.rlb {a : Act} {Q : Exit → Act → World → Prop} {o : Oper} {ops : Array Oper} {rest : List Oper} {x : Operand} (hC : Cx E B w0 w (.r st) H L) (h : wpList Tryz.prog ops Q rest (a.put o.dst (.bool st.isNone)) w) (hgd : o.guard = none := by rfl) (ho : o.op = .load 4 x := by rfl) (he : a.eval x = .pointer (some ⟨E.b, 2, none⟩) := by rfl) : wpList Tryz.prog ops Q (o :: rest) a w := by
  refine wpList_plain hgd fun K hK => ?_
  obtain ⟨d, hu, hd⟩ := und1 (T := 4) (by kernel_rfl)
  have hc := hC.rbad
  have e : (loadVar 4 ⟨E.b, 2, none⟩).run Tryz.prog w = .ok (.bool st.isNone) w := by
    have hagg : (isAgg 4).run Tryz.prog w = .ok false w := by
      unfold isAgg
      rw [Sem.run_bind, run_underlying hu w]
      cases d <;> simp_all
    unfold loadVar
    simp [hagg, hc]
  unfold Oper.wp execOp
  simp only [ho, he, Instr.loadAt, Instr.sureAddr, Sem.run_bind, Sem.run_pure, Result.andThen_ok, e]
  exact hK _ _ h
end
theorem sl_some {r ts : List Tok} (h : r.length < ts.length) : sl (some r) + 1 ≤ sl (some ts) := by simp only [sl]; omega
theorem uN {E : Env} {B : Nat} {w0 w : World} {st : Option (List Tok)} {H : List Bx} {L : List Tn} {β : Type} {o : Option β} {R : Ending → World → Prop} {f : Nat} {args : Array Value} {F : Ps Tr} {K : Tr → List Tok → Option β} (h : Calls Tryz.prog f args w (RN E B w0 H L (st.bind F))) (HO : Hid (st.bind (fun ts => bd (F ts) K) = o)) (k : ∀ t st' W ao cap, st.bind F = st'.map (Prod.mk t) → Cx E B w0 W (.r st') H ((ao, cap, t) :: L) → Hid (st'.bind (K t) = o) → R (.returned (nv t.op t.s t.n ao t.L.length cap)) W) : Calls Tryz.prog f args w R :=
  useRN h fun t st' W ao cap he hC => k t st' W ao cap he hC (bindN he HO.out)
theorem sl_some1 {r ts : List Tok} (h : r.length < ts.length) : sl (some r) + 1 ≤ sl (some ts) := by simp only [sl]; omega
theorem gotW2 {E : Env} {B : Nat} {w0 w : World} {st : Option (List Tok)} {H : List Bx} {L : List Tn} {β : Type} {o : Option β} {R : Ending → World → Prop} {s : List UInt8} {A C : List Tok → Option β} (hg : GoodE E) (hC : Cx E B w0 w (.r st) H L) (hs : wl s = true) (HO : Hid (st.bind (fun ts => ow s ts A (C ts)) = o)) (h1 : ∀ ts r W, Cx E B w0 W (.r (some r)) H L → st = some ts → sl (some r) + 1 ≤ sl (some ts) → Hid ((some r).bind A = o) → R (.returned (.bool true)) W) (h0 : Cx E B w0 w (.r st) H L → Hid (st.bind C = o) → R (.returned (.bool false)) w) : Calls Tryz.prog 15 #[.pointer (some ⟨E.b, 0, none⟩), .string ⟨s.toArray⟩] w R :=
  gotW hg hC s hs (fun ts W e hb hD hl => h1 ts _ W hD e (sl_some1 hl) (by subst e; exact bindT hb HO.out)) (fun hb hD => h0 hD (bindF hb HO.out))
theorem gotS2 {E : Env} {B : Nat} {w0 w : World} {st : Option (List Tok)} {H : List Bx} {L : List Tn} {β : Type} {o : Option β} {R : Ending → World → Prop} {s : List UInt8} {A : List UInt8 → List Tok → Option β} {C : List Tok → Option β} (hg : GoodE E) (hC : Cx E B w0 w (.r st) H L) (hs : wl s = false) (HO : Hid (st.bind (fun ts => og (sgF s ts) A (C ts)) = o)) (h1 : ∀ ts r W, Cx E B w0 W (.r (some r)) H L → st = some ts → sl (some r) + 1 ≤ sl (some ts) → Hid ((some r).bind (A s) = o) → R (.returned (.bool true)) W) (h0 : Cx E B w0 w (.r st) H L → Hid (st.bind C = o) → R (.returned (.bool false)) w) : Calls Tryz.prog 15 #[.pointer (some ⟨E.b, 0, none⟩), .string ⟨s.toArray⟩] w R :=
  gotS hg hC s hs (fun ts r W e hb hD hl => h1 ts r W hD e (sl_some1 hl) (by subst e; exact bindG (F := sgF s) hb HO.out)) (fun hb hD => h0 hD (bindH (F := sgF s) hb HO.out))
theorem isW2 {E : Env} {B : Nat} {w0 w : World} {st : Option (List Tok)} {H : List Bx} {L : List Tn} {β : Type} {o : Option β} {R : Ending → World → Prop} {k : Nat} {s : List UInt8} {A C : List Tok → Option β} (hg : GoodE E) (hC : Cx E B w0 w (.r st) H L) (hk : k ≤ 1000) (hs : wl s = true) (HO : Hid (st.bind (fun ts => if sdB k 0 s ts = true then A ts else C ts) = o)) (h1 : ∀ ts, Cx E B w0 w (.r st) H L → st = some ts → 1 ≤ sl (some ts) → Hid (st.bind A = o) → R (.returned (.bool true)) w) (h0 : Cx E B w0 w (.r st) H L → Hid (st.bind C = o) → R (.returned (.bool false)) w) : Calls Tryz.prog 29 #[.pointer (some ⟨E.b, 0, none⟩), .int .i64 k, .string ⟨s.toArray⟩] w R :=
  q_isW hg hC k hk s hs (fun ts e hb => h1 ts hC e (by simp only [sl]; omega) (by subst e; exact bindC (c := fun ts => sdB k 0 s ts) hb HO.out)) (fun hb => h0 hC (bindD (c := fun ts => sdB k 0 s ts) hb HO.out))
theorem isS2 {E : Env} {B : Nat} {w0 w : World} {st : Option (List Tok)} {H : List Bx} {L : List Tn} {β : Type} {o : Option β} {R : Ending → World → Prop} {k : Nat} {s : List UInt8} {A C : List Tok → Option β} (hg : GoodE E) (hC : Cx E B w0 w (.r st) H L) (hk : k ≤ 1000) (hs : wl s = false) (HO : Hid (st.bind (fun ts => if sdB k 3 s ts = true then A ts else C ts) = o)) (h1 : ∀ ts, Cx E B w0 w (.r st) H L → st = some ts → 1 ≤ sl (some ts) → Hid (st.bind A = o) → R (.returned (.bool true)) w) (h0 : Cx E B w0 w (.r st) H L → Hid (st.bind C = o) → R (.returned (.bool false)) w) : Calls Tryz.prog 29 #[.pointer (some ⟨E.b, 0, none⟩), .int .i64 k, .string ⟨s.toArray⟩] w R :=
  q_isS hg hC k hk s hs (fun ts e hb => h1 ts hC e (by simp only [sl]; omega) (by subst e; exact bindC (c := fun ts => sdB k 3 s ts) hb HO.out)) (fun hb => h0 hC (bindD (c := fun ts => sdB k 3 s ts) hb HO.out))
theorem mustW2 {E : Env} {B : Nat} {w0 w : World} {st : Option (List Tok)} {H : List Bx} {L : List Tn} {β : Type} {o : Option β} {R : Ending → World → Prop} {s : List UInt8} {K : List Tok → Option β} (hg : GoodE E) (hC : Cx E B w0 w (.r st) H L) (hs : wl s = true) (HO : Hid (st.bind (fun ts => (needF [s] ts).bind K) = o)) (h1 : ∀ st' W, Cx E B w0 W (.r st') H L → sl st' ≤ sl st - 1 → Hid (st'.bind K = o) → R (.returned (.tuple #[])) W) : Calls Tryz.prog 35 #[.pointer (some ⟨E.b, 0, none⟩), .string ⟨s.toArray⟩] w R :=
  mustW hg hC s hs fun st' W he hD hl => h1 st' W hD hl (bindU he HO.out)
theorem mustS2 {E : Env} {B : Nat} {w0 w : World} {st : Option (List Tok)} {H : List Bx} {L : List Tn} {β : Type} {o : Option β} {R : Ending → World → Prop} {s : List UInt8} {K : List UInt8 → List Tok → Option β} (hg : GoodE E) (hC : Cx E B w0 w (.r st) H L) (hs : wl s = false) (HO : Hid (st.bind (fun ts => bd (sgF s ts) K) = o)) (h1 : ∀ st' W, Cx E B w0 W (.r st') H L → sl st' ≤ sl st - 1 → Hid (st'.bind (K s) = o) → R (.returned (.tuple #[])) W) : Calls Tryz.prog 35 #[.pointer (some ⟨E.b, 0, none⟩), .string ⟨s.toArray⟩] w R :=
  mustS hg hC s hs fun st' W he hD hl => h1 st' W hD hl (bindN (F := sgF s) he HO.out)
theorem name2 {E : Env} {B : Nat} {w0 w : World} {st : Option (List Tok)} {H : List Bx} {L : List Tn} {β : Type} {o : Option β} {R : Ending → World → Prop} {K : List UInt8 → List Tok → Option β} (hg : GoodE E) (hC : Cx E B w0 w (.r st) H L) (HO : Hid (st.bind (fun ts => bd (nameF ts) K) = o)) (h1 : ∀ s st' W, Cx E B w0 W (.r st') H L → sl st' ≤ sl st - 1 → Hid (st'.bind (K s) = o) → R (.returned (.string ⟨s.toArray⟩)) W) : Calls Tryz.prog 34 #[.pointer (some ⟨E.b, 0, none⟩)] w R :=
  useRS (q_rname hg hC) fun s st' W he hD => h1 s st' W hD (sl_lt (fun _ _ _ h => by have := nameF_len h; omega) he) (bindN he HO.out)
theorem aGot {G A B : Prop} (a : A) (b : B) (h : KK A → KK B → G := by intro ka kb; first | (refine gotW2 hg hC (by decide) HO ?_ ?_; exact ka.out; exact kb.out) | (refine gotS2 hg hC (by decide) HO ?_ ?_; exact ka.out; exact kb.out)) : G := h ⟨a⟩ ⟨b⟩
theorem aIs {G A B : Prop} (a : A) (b : B) (h : KK A → KK B → G := by intro ka kb; first | (refine isW2 hg hC (by decide) (by decide) HO ?_ ?_; exact ka.out; exact kb.out) | (refine isS2 hg hC (by decide) (by decide) HO ?_ ?_; exact ka.out; exact kb.out)) : G := h ⟨a⟩ ⟨b⟩
theorem aMust {G G' : Prop} (k : G') (h : KK G' → G := by intro kk; first | (refine mustW2 hg hC (by decide) HO ?_; exact kk.out) | (refine mustS2 hg hC (by decide) HO ?_; exact kk.out)) : G := h ⟨k⟩
theorem aName {G G' : Prop} (k : G') (h : KK G' → G := by intro kk; refine name2 hg hC HO ?_; exact kk.out) : G := h ⟨k⟩
theorem allF_Len : Len allF := fun ts x r h => by
  unfold allF ow at h
  split at h
  · have := tkR_len [[97, 108, 108]] ts
    simp only [Option.some.injEq, Prod.mk.injEq] at h
    obtain ⟨_, rfl⟩ := h; exact this
  · simp only [Option.some.injEq, Prod.mk.injEq] at h
    obtain ⟨_, rfl⟩ := h; exact Nat.le_refl _
def colX (ts : List Tok) : Option (Tr × List Tok) := bd (nameF ts) fun s r => og (sgF [46] r) (fun _ r2 => bd (nameF r2) fun c r3 => some (nd [99, 111, 108] c [nd [111, 102] s []], r3)) (some (nd [99, 111, 108] s [], r))
theorem colX_eq : colF = colX := by
  funext ts
  unfold colF colX
  cases nameF ts with
  | none => rfl
  | some p =>
    obtain ⟨s, r⟩ := p
    show (match sgF [46] r with
      | none => some (nd [99, 111, 108] s [], r)
      | some (_, r2) => match nameF r2 with
        | none => none
        | some (c, r3) => some (nd [99, 111, 108] c [nd [111, 102] s []], r3)) = og (sgF [46] r) _ _
    cases sgF [46] r with
    | none => rfl
    | some q =>
      obtain ⟨_, r2⟩ := q
      show (match nameF r2 with | none => none | some (c, r3) => some (nd [99, 111, 108] c [nd [111, 102] s []], r3)) = bd (nameF r2) _
      cases nameF r2 <;> rfl
theorem q_rcol {E : Env} {B : Nat} {w0 w : World} {st : Option (List Tok)} {H : List Bx} {L : List Tn} (hg : GoodE E) (hC : Cx E B w0 w (.r st) H L) :
    Calls Tryz.prog 104 #[.pointer (some ⟨E.b, 0, none⟩)] w (RN E B w0 H L (st.bind (colF))) := by
  obtain ⟨o, ho⟩ : ∃ o, st.bind (colF) = o := ⟨_, rfl⟩
  rw [ho]
  rw [colX_eq] at ho
  unfold colX at ho
  have HO := hidk ho
  clear ho
  have h601 := hC.rsl
  go_enter Tryz.func104, Tryz.ntmps104
  go_wp2_with (first
  | (refine bA ?_; clear hC; intro W k hC)
  | (refine bS ?_; clear hC; intro W hC)
  | (go_at_call 34; refine aName ?_; clear hC HO; intro s st2 W hC hl HO)
  | (go_at_call 15; have hD := hC; clear hC; (first | (refine gotW hg hD _ (by decide) ?_ ?_; (focus (intro ts W e hb hC hl; have hl := sl_some hl; clear hD; cases e; replace HO := hidk (bindT hb HO.out); clear hb)); rotate_left; (focus (intro hb hC; clear hD; replace HO := hidk (bindF hb HO.out); clear hb)); rotate_left) | (refine gotS hg hD _ (by decide) ?_ ?_; (focus (intro ts r W e hb hC hl; have hl := sl_some hl; clear hD; cases e; replace HO := hidk (bindG (F := sgF _) hb HO.out); clear hb)); rotate_left; (focus (intro hb hC; clear hD; replace HO := hidk (bindH (F := sgF _) hb HO.out); clear hb)); rotate_left)))
  | (go_at_call 33; guard_target = Calls _ _ #[_, _, _, Value.slice none 0 0] _ _; (first | refine useRD (q_rnode0 hC _ _ _) ?_); clear hC; intro W ao cap hC)
  | (go_at_call 33; guard_target = Calls _ _ #[_, _, _, Value.slice (some _) 1 1] _ _; refine m5 ?_; clear hC; intro W ao cap hC))
  all_goals (refine hC.rc ?_; first | exact endRN HO (hC.fin mSub mMem mL) | exact endR0 HO (hC.fin mSub mMem mL))
end Go.Proofs.YtaenpacfbheppaaGreatDoor
namespace Go.Proofs.YtaenpacfbheppaaGreatDoor
open Go.RowKit
theorem sl_pos (ts : List Tok) : 1 ≤ sl (some ts) := by simp only [sl]; omega
structure Cw (E : Env) (R : Rc) (n : Nat) : Prop where
  len : R.Len
  expr : ∀ {B : Nat} {w0 w : World} {st : Option (List Tok)} {H : List Bx} {L : List Tn}, Cx E B w0 w (.r st) H L → sl st < n → Calls Tryz.prog 70 #[.pointer (some ⟨E.b, 0, none⟩)] w (RN E B w0 H L (st.bind R.expr))
  body : ∀ {B : Nat} {w0 w : World} {st : Option (List Tok)} {H : List Bx} {L : List Tn}, Cx E B w0 w (.r st) H L → sl st < n → Calls Tryz.prog 63 #[.pointer (some ⟨E.b, 0, none⟩)] w (RN E B w0 H L (st.bind R.body))
  neg : ∀ {B : Nat} {w0 w : World} {st : Option (List Tok)} {H : List Bx} {L : List Tn}, Cx E B w0 w (.r st) H L → sl st < n → Calls Tryz.prog 131 #[.pointer (some ⟨E.b, 0, none⟩)] w (RN E B w0 H L (st.bind R.neg))
  fac : ∀ {B : Nat} {w0 w : World} {st : Option (List Tok)} {H : List Bx} {L : List Tn}, Cx E B w0 w (.r st) H L → sl st < n → Calls Tryz.prog 186 #[.pointer (some ⟨E.b, 0, none⟩)] w (RN E B w0 H L (st.bind R.fac))
  tab : ∀ {B : Nat} {w0 w : World} {st : Option (List Tok)} {H : List Bx} {L : List Tn}, Cx E B w0 w (.r st) H L → sl st < n → Calls Tryz.prog 148 #[.pointer (some ⟨E.b, 0, none⟩)] w (RN E B w0 H L (st.bind R.tab))

def parX {α : Type} (I : Ps α) (ts : List Tok) : Option (α × List Tok) := bd (sgF [40] ts) fun _ r => bd (I r) fun b r2 => bd (sgF [41] r2) fun _ r3 => some (b, r3)
theorem parX_eq {α : Type} (I : Ps α) : parF I = parX I := by
  funext ts
  unfold parF parX bd
  cases sgF [40] ts with
  | none => rfl
  | some p =>
    simp only
    cases I p.2 with
    | none => rfl
    | some q =>
      simp only
      cases sgF [41] q.2 <;> rfl
theorem q_inner {E : Env} {B : Nat} {w0 w : World} {st : Option (List Tok)} {H : List Bx} {L : List Tn} {R : Rc} {n : Nat} (RC : Cw E R n) (hg : GoodE E) (hC : Cx E B w0 w (.r st) H L) (hn : sl st ≤ n) (h0 : 0 < n) :
    Calls Tryz.prog 179 #[.pointer (some ⟨E.b, 0, none⟩)] w (RN E B w0 H L (st.bind (parF R.body))) := by
  obtain ⟨o, ho⟩ : ∃ o, st.bind (parF R.body) = o := ⟨_, rfl⟩
  rw [ho]
  rw [parX_eq] at ho
  unfold parX at ho
  have HO := hidk ho
  clear ho
  have h601 := hC.rsl
  go_enter Tryz.func179, Tryz.ntmps179
  go_wp2_with (first
  | (refine bA ?_; clear hC; intro W k hC)
  | refine bL ?_
  | (refine bS ?_; clear hC; intro W hC)
  | (go_at_call 35; refine aMust ?_; clear hC HO; intro st2 W hC hl HO)
  | (go_at_call 63; refine uN (RC.body hC (by omega)) HO ?_; clear hC HO; intro t st2 W ao cap he hC HO; have hl := sl_of RC.len.body he; clear he))
  all_goals (refine hC.rc ?_; first | exact endRN HO (hC.fin mSub mMem mL) | exact endR0 HO (hC.fin mSub mMem mL))
theorem q_rturned {E : Env} {B : Nat} {w0 w : World} {s : Stt} {H : List Bx} {L : List Tn} (no : Bool) {ao : Option Addr} {cap : Nat} {t : Tr} (hC : Cx E B w0 w s H L) (ht : (ao, cap, t) ∈ L) :
    Calls Tryz.prog 169 #[.bool no, nv t.op t.s t.n ao t.L.length cap] w (RD E B w0 s H L (turnT no t)) := by
  cases no with
  | true =>
    go_enter Tryz.func169, Tryz.ntmps169
    go_wp2_with (first
    | (refine bA ?_; clear hC; intro W k hC)
    | ((first | refine hC.bP ?_ | refine hC.bN ?_ | refine hC.b1 ?_); clear hC; intro W k hC; (try simp only [pP]))
    | refine bL ?_
    | (refine bS ?_; clear hC; intro W hC)
    | (go_at_call 33; guard_target = Calls _ _ #[_, _, _, Value.slice (some _) 1 1] _ _; (first | refine useRD (q_rnode1 _ _ _ hC ht) ?_); clear hC; intro W ao cap hC))
    refine hC.rc ?_
    refine ⟨_, _, rfl, (hC.fin ?_ (.head _) ?_)⟩
    · (repeat (first | exact List.Sublist.refl _ | apply List.Sublist.cons)); done
    · intro y hy; (repeat (first | exact hy | apply List.mem_cons_of_mem)); done
  | false =>
    go_enter Tryz.func169, Tryz.ntmps169
    go_wp2_with (first
    | (refine bA ?_; clear hC; intro W k hC)
    | ((first | refine hC.bP ?_ | refine hC.bN ?_ | refine hC.b1 ?_); clear hC; intro W k hC; (try simp only [pP]))
    | refine bL ?_
    | (refine bS ?_; clear hC; intro W hC)
    | (refine bA ?_; clear hC; intro W k hC))
    refine hC.rc ?_
    refine ⟨ao, cap, rfl, (hC.fin ?_ ht ?_)⟩
    · (repeat (first | exact List.Sublist.refl _ | apply List.Sublist.cons)); done
    · intro y hy; exact hy
def totY (R : Rc) (op : List UInt8) (r : List Tok) : Option (Tr × List Tok) :=
  ow [100, 105, 115, 116, 105, 110, 99, 116] r (fun r2 => bd (R.expr r2) fun e r3 => bd (sgF [41] r3) fun _ r4 => some (.mk op [] 1 [e], r4))
    (ow [97, 108, 108] r (fun r2 => bd (R.expr r2) fun e r3 => bd (sgF [41] r3) fun _ r4 => some (.mk op [] 0 [e], r4)) (bd (R.expr r) fun e r3 => bd (sgF [41] r3) fun _ r4 => some (.mk op [] 0 [e], r4)))
def totX (R : Rc) (op : List UInt8) (ts : List Tok) : Option (Tr × List Tok) := bd (sgF [40] ts) fun _ r =>
  if (op == [99, 111, 117, 110, 116]) = true then og (sgF [42] r) (fun _ r2 => bd (sgF [41] r2) fun _ r3 => some (nd [99, 111, 117, 110, 116, 42] [] [], r3)) (totY R op r) else totY R op r
theorem totE_x (R : Rc) (op : List UInt8) (r : List Tok) : bd (totE R op r) (fun x r2 => bd (sgF [41] r2) fun _ r3 => some (x, r3)) = totY R op r := by
  unfold totE totY distF ow
  cases h1 : tkB [[100, 105, 115, 116, 105, 110, 99, 116]] r with
  | true =>
    simp only [if_true]
    cases R.expr (tkR [[100, 105, 115, 116, 105, 110, 99, 116]] r) with
    | none => rfl
    | some p => rfl
  | false =>
    simp only [Bool.false_eq_true, if_false]
    cases h2 : tkB [[97, 108, 108]] r with
    | true =>
      simp only [if_true]
      cases R.expr (tkR [[97, 108, 108]] r) with
      | none => rfl
      | some p => rfl
    | false =>
      simp only [Bool.false_eq_true, if_false]
      rw [tkR_no1 h2]
      cases R.expr r with
      | none => rfl
      | some p => rfl
theorem totX_eq (R : Rc) (op : List UInt8) : parF (totF R op) = totX R op := by
  rw [parX_eq]
  funext ts
  unfold parX totX totF
  cases sgF [40] ts with
  | none => rfl
  | some p =>
    show bd (if op == [99, 111, 117, 110, 116] then (match sgF [42] p.2 with | some (_, r) => some (nd [99, 111, 117, 110, 116, 42] [] [], r) | none => totE R op p.2) else totE R op p.2) _ = (if (op == [99, 111, 117, 110, 116]) = true then og (sgF [42] p.2) _ (totY R op p.2) else totY R op p.2)
    rw [← totE_x]
    split
    · cases sgF [42] p.2 with
      | none => rfl
      | some q => rfl
    · rfl
theorem q_total0 {E : Env} {B : Nat} {w0 w : World} {st : Option (List Tok)} {H : List Bx} {L : List Tn} {R : Rc} {n : Nat} (RC : Cw E R n) {op : List UInt8} (hop : (op == [99, 111, 117, 110, 116]) = false) (hg : GoodE E) (hC : Cx E B w0 w (.r st) H L) (hn : sl st ≤ n) (h0 : 0 < n) :
    Calls Tryz.prog 207 #[.pointer (some ⟨E.b, 0, none⟩), .string ⟨op.toArray⟩] w (RN E B w0 H L (st.bind (parF (totF R op)))) := by
  obtain ⟨o, ho⟩ : ∃ o, st.bind (parF (totF R op)) = o := ⟨_, rfl⟩
  rw [ho]
  rw [totX_eq] at ho
  unfold totX at ho
  unfold totY at ho
  simp only [hop, Bool.false_eq_true, if_false] at ho
  have HO := hidk ho
  clear ho
  have h601 := hC.rsl
  go_enter Tryz.func207, Tryz.ntmps207
  go_wp2_with (first
  | (refine bA ?_; clear hC; intro W k hC)
  | refine bL ?_
  | (refine bS ?_; clear hC; intro W hC)
  | (go_at_call 35; refine aMust ?_; clear hC HO; intro st2 W hC hl HO)
  | (go_at_call 15; have hD := hC; clear hC; (first | (refine gotW hg hD _ (by decide) ?_ ?_; (focus (intro ts W e hb hC hl; have hl := sl_some hl; clear hD; cases e; replace HO := hidk (bindT hb HO.out); clear hb)); rotate_left; (focus (intro hb hC; clear hD; replace HO := hidk (bindF hb HO.out); clear hb)); rotate_left) | (refine gotS hg hD _ (by decide) ?_ ?_; (focus (intro ts r W e hb hC hl; have hl := sl_some hl; clear hD; cases e; replace HO := hidk (bindG (F := sgF _) hb HO.out); clear hb)); rotate_left; (focus (intro hb hC; clear hD; replace HO := hidk (bindH (F := sgF _) hb HO.out); clear hb)); rotate_left)))
  | (go_at_call 70; refine uN (RC.expr hC (by omega)) HO ?_; clear hC HO; intro t st2 W ao cap he hC HO; have hl := sl_of RC.len.expr he; clear he)
  | (go_at_call 33; guard_target = Calls _ _ #[_, _, _, Value.slice none 0 0] _ _; (first | refine useRD (q_rnode0 hC _ _ _) ?_); clear hC; intro W ao cap hC)
  | (go_at_call 33; guard_target = Calls _ _ #[_, _, _, Value.slice (some _) 1 1] _ _; refine m5 ?_; clear hC; intro W ao cap hC))
  all_goals (refine hC.rc ?_; first | exact endRN HO (hC.fin mSub mMem mL) | exact endR0 HO (hC.fin mSub mMem mL))
theorem q_total1 {E : Env} {B : Nat} {w0 w : World} {st : Option (List Tok)} {H : List Bx} {L : List Tn} {R : Rc} {n : Nat} (RC : Cw E R n) {op : List UInt8} (hop : (op == [99, 111, 117, 110, 116]) = true) (hg : GoodE E) (hC : Cx E B w0 w (.r st) H L) (hn : sl st ≤ n) (h0 : 0 < n) :
    Calls Tryz.prog 207 #[.pointer (some ⟨E.b, 0, none⟩), .string ⟨op.toArray⟩] w (RN E B w0 H L (st.bind (parF (totF R op)))) := by
  obtain ⟨o, ho⟩ : ∃ o, st.bind (parF (totF R op)) = o := ⟨_, rfl⟩
  rw [ho]
  rw [totX_eq] at ho
  unfold totX at ho
  unfold totY at ho
  simp only [hop, if_true] at ho
  have HO := hidk ho
  clear ho
  have h601 := hC.rsl
  go_enter Tryz.func207, Tryz.ntmps207
  go_wp2_with (first
  | (refine bA ?_; clear hC; intro W k hC)
  | refine bL ?_
  | (refine bS ?_; clear hC; intro W hC)
  | (go_at_call 35; refine aMust ?_; clear hC HO; intro st2 W hC hl HO)
  | (go_at_call 15; have hD := hC; clear hC; (first | (refine gotW hg hD _ (by decide) ?_ ?_; (focus (intro ts W e hb hC hl; have hl := sl_some hl; clear hD; cases e; replace HO := hidk (bindT hb HO.out); clear hb)); rotate_left; (focus (intro hb hC; clear hD; replace HO := hidk (bindF hb HO.out); clear hb)); rotate_left) | (refine gotS hg hD _ (by decide) ?_ ?_; (focus (intro ts r W e hb hC hl; have hl := sl_some hl; clear hD; cases e; replace HO := hidk (bindG (F := sgF _) hb HO.out); clear hb)); rotate_left; (focus (intro hb hC; clear hD; replace HO := hidk (bindH (F := sgF _) hb HO.out); clear hb)); rotate_left)))
  | (go_at_call 70; refine uN (RC.expr hC (by omega)) HO ?_; clear hC HO; intro t st2 W ao cap he hC HO; have hl := sl_of RC.len.expr he; clear he)
  | (go_at_call 33; guard_target = Calls _ _ #[_, _, _, Value.slice none 0 0] _ _; (first | refine useRD (q_rnode0 hC _ _ _) ?_); clear hC; intro W ao cap hC)
  | (go_at_call 33; guard_target = Calls _ _ #[_, _, _, Value.slice (some _) 1 1] _ _; refine m5 ?_; clear hC; intro W ao cap hC))
  all_goals (refine hC.rc ?_; first | exact endRN HO (hC.fin mSub mMem mL) | exact endR0 HO (hC.fin mSub mMem mL))
theorem q_rtotal {E : Env} {B : Nat} {w0 w : World} {st : Option (List Tok)} {H : List Bx} {L : List Tn} {R : Rc} {n : Nat} (RC : Cw E R n) (op : List UInt8) (hg : GoodE E) (hC : Cx E B w0 w (.r st) H L) (hn : sl st ≤ n) (h0 : 0 < n) :
    Calls Tryz.prog 207 #[.pointer (some ⟨E.b, 0, none⟩), .string ⟨op.toArray⟩] w (RN E B w0 H L (st.bind (parF (totF R op)))) := by
  cases hop : (op == [99, 111, 117, 110, 116]) with
  | true => exact q_total1 RC hop hg hC hn h0
  | false => exact q_total0 RC hop hg hC hn h0
end Go.Proofs.YtaenpacfbheppaaGreatDoor
namespace Go.Proofs.YtaenpacfbheppaaGreatDoor
open Go.RowKit
section
variable {I : Ps Tr} {β : Type} {o : Option β} {K : List Tr → List Tok → Option β}
theorem startL {st : Option (List Tok)} {a : List Tr} (h : st.bind (fun r => bd (lsN I (r.length + 1) a r) K) = o) : st.bind (fun r => bd (lsN I (sl st) a r) K) = o := by
  rw [← h]
  cases st <;> rfl
theorem lsN_go {J : List Tok → (Tr → List Tok → Option β) → Option β} (hJ : ∀ r k, bd (I r) k = J r k) {f : Nat} {l : List Tr} {ts : List Tok} (h : (some ts).bind (fun ts => bd (lsN I (f + 1) l ts) K) = o) : (some ts).bind (fun ts => og (sgF [44] ts) (fun _ r => J r (fun x r2 => bd (lsN I f (l ++ [x]) r2) K)) (K l ts)) = o := by
  rw [← h]
  show og (sgF [44] ts) _ _ = bd (match sgF [44] ts with | none => some (l, ts) | some (_, r) => match I r with | none => none | some (x, r2) => lsN I f (l ++ [x]) r2) K
  cases sgF [44] ts with
  | none => rfl
  | some p =>
    obtain ⟨_, r⟩ := p
    show J r _ = bd (match I r with | none => none | some (x, r2) => lsN I f (l ++ [x]) r2) K
    rw [← hJ]
    cases I r with
    | none => rfl
    | some q => rfl
end
theorem lsF_x (I : Ps Tr) {β : Type} (K : List Tr → List Tok → Option β) (ts : List Tok) : bd (lsF I ts) K = bd (I ts) fun x r => bd (lsN I (r.length + 1) [x] r) K := by
  unfold lsF
  cases I ts with
  | none => rfl
  | some p => rfl
theorem bd_id {α : Type} (x : Option (α × List Tok)) : bd x (fun a r => some (a, r)) = x := by
  cases x <;> rfl
theorem namF_x {β : Type} (ts : List Tok) (K : Tr → List Tok → Option β) : bd (namF ts) K = bd (nameF ts) fun s r => K (nd [110, 97, 109, 101] s []) r := by
  unfold namF
  cases nameF ts with
  | none => rfl
  | some p => rfl
def exprsX (R : Rc) (ts : List Tok) : Option (List Tr × List Tok) := bd (R.expr ts) fun x r => bd (lsN R.expr (r.length + 1) [x] r) fun l r2 => some (l, r2)
theorem exprsX_eq (R : Rc) : lsF R.expr = exprsX R := by
  funext ts
  rw [← bd_id (lsF R.expr ts), lsF_x]
  rfl
def namesX (ts : List Tok) : Option (List Tr × List Tok) := bd (sgF [40] ts) fun _ r => bd (nameF r) fun s r2 => bd (lsN namF (r2.length + 1) [nd [110, 97, 109, 101] s []] r2) fun l r3 => bd (sgF [41] r3) fun _ r4 => some (l, r4)
theorem namesX_eq : namesF = namesX := by
  funext ts
  unfold namesF
  rw [parX_eq]
  unfold parX namesX
  congr 1
  funext _ r
  rw [lsF_x, namF_x]
theorem q_rexprs {E : Env} {B : Nat} {w0 w : World} {st : Option (List Tok)} {H : List Bx} {L : List Tn} {R : Rc} {n : Nat} (RC : Cw E R n) (hg : GoodE E) (hC : Cx E B w0 w (.r st) H L) (hn : sl st < n) :
    Calls Tryz.prog 109 #[.pointer (some ⟨E.b, 0, none⟩)] w (RL E B w0 H L (st.bind (lsF R.expr))) := by
  obtain ⟨o, ho⟩ : ∃ o, st.bind (lsF R.expr) = o := ⟨_, rfl⟩
  rw [ho]
  rw [exprsX_eq] at ho
  unfold exprsX at ho
  have HO := hidk ho
  clear ho
  have h601 := hC.rsl
  go_enter Tryz.func109, Tryz.ntmps109
  go_wp2_with (first
  | refine bL ?_
  | (refine bA ?_; clear hC; intro W k hC)
  | (go_at_call 70; refine uN (RC.expr hC (by omega)) HO ?_; clear hC HO; intro t st2 W ao cap he hC HO; have hl := sl_of RC.len.expr he; clear he))
  
  go_loopg [3] (sl st2) (fun kx sv wr => ∃ (k : Nat) (l : List Tr) (cp : Nat) (cur : List Value) (ks : List Kid) (L' : List Tn) (st' : Option (List Tok)) (f : Nat), sv = .slice (some ⟨k, 0, none⟩) l.length cp ∧ sl st' ≤ kx ∧ Hid (Cx E B w0 wr (.r st') ((k, cur, 24) :: H) L') ∧ Hid (Rw cp l ks cur) ∧ Hid (Rin ks l L') ∧ Hid (∀ y ∈ L, y ∈ L') ∧ Hid (st'.bind (fun ts => bd (lsN (R.expr) f l ts) (fun l r2 => some (l, r2))) = o) ∧ sl st' ≤ f ∧ l.length + sl st' ≤ 602 ∧ sl st' ≤ sl st ∧ 0 < l.length ∧ sl st' < n)
  case atStart => exact ⟨_, [t], 1, _, _, _, st2, sl st2, rfl, Nat.le_refl _, hC, Rw.one, Rin.one (.head _), mL, startL HO.out, Nat.le_refl _, by simp; omega, by omega, by simp, by omega⟩
  case round =>
    rename World => wr
    clear hC HO 
    obtain ⟨k, l, cp, cur, ks, L', st', f, rfl, hk, hC', hR, hN, hS, HO2, hf, h6, hst, h0, hbd⟩ := hrel
    have hC := hC'.out
    clear hC'
    cases st' with
    | none =>
      have HO : Hid ((none : Option (List Tok)).bind ((fun l r2 => some (l, r2)) l) = o) := HO2.out
      clear HO2
      go_wp2_with (first
      | refine bL ?_
      | (refine bA ?_; clear hC; intro W k hC))
      all_goals (go_ret; exact endRL HO ((hC.made hR.out hN.out h0 [] [] 0).fin mSub (.head _) (fun y hy => .tail _ (hS.out y hy))) h0 (by omega))
    | some ts0 =>
      have hp0 := sl_pos ts0
      obtain ⟨f, rfl⟩ : ∃ f', f = f' + 1 := ⟨f - 1, by omega⟩
      have HO3 := hidk (lsN_go (J := fun r k => bd (R.expr r) k) (fun r k => rfl) HO2.out)
      have HO : Hid ((some ts0).bind (fun ts => og (sgF [44] ts) (fun _ r => bd (R.expr r) (fun x r2 => bd (lsN (R.expr) f (l ++ [x]) r2) (fun l r2 => some (l, r2)))) ((fun l r2 => some (l, r2)) l ts)) = o) := HO3.out
      clear HO2 HO3
      go_wp2_with (first
      | refine bL ?_
      | (refine bA ?_; clear hC; intro W k hC)
      | (go_at_call 15; have hD := hC; clear hC; (first | (refine gotW hg hD _ (by decide) ?_ ?_; (focus (intro ts W e hb hC hl; have hl := sl_some hl; clear hD; cases e; replace HO := hidk (bindT hb HO.out); clear hb)); rotate_left; (focus (intro hb hC; clear hD; replace HO := hidk (bindF hb HO.out); clear hb)); rotate_left) | (refine gotS hg hD _ (by decide) ?_ ?_; (focus (intro ts r W e hb hC hl; have hl := sl_some hl; clear hD; cases e; replace HO := hidk (bindG (F := sgF _) hb HO.out); clear hb)); rotate_left; (focus (intro hb hC; clear hD; replace HO := hidk (bindH (F := sgF _) hb HO.out); clear hb)); rotate_left)))
      | (go_at_call 70; refine uN (RC.expr hC (by omega)) HO ?_; clear hC HO; intro t st2 W ao cap he hC HO; have hl := sl_of RC.len.expr he; clear he)
      | (at_builtin; have hD := hC; clear hC; refine wl_app1 rfl hD (.head _) 0 (by rfl) (by rfl) (by rfl) rfl hR.out (hN.out.mono mL) (by rfl) (by omega) ?_; clear hD; intro W k cap2 cur2 hC hR2 hN2; simp only [pS] at hC; (try simp only [pP])))
      · go_roundg (sl st2)
        case measure => omega
        case rel => exact ⟨k, l ++ [t], cap2, cur2, _, _, st2, f, (by simp), Nat.le_refl _, hC, hR2, hN2, (mS hS.out), HO, by omega, by simp; omega, by omega, by simp, by omega⟩
      all_goals (go_ret; exact endRL HO ((hC.made hR.out hN.out h0 [] [] 0).fin mSub (.head _) (fun y hy => .tail _ (hS.out y hy))) h0 (by omega))
theorem q_rnames {E : Env} {B : Nat} {w0 w : World} {st : Option (List Tok)} {H : List Bx} {L : List Tn} (hg : GoodE E) (hC : Cx E B w0 w (.r st) H L) :
    Calls Tryz.prog 66 #[.pointer (some ⟨E.b, 0, none⟩)] w (RL E B w0 H L (st.bind (namesF))) := by
  obtain ⟨o, ho⟩ : ∃ o, st.bind (namesF) = o := ⟨_, rfl⟩
  rw [ho]
  rw [namesX_eq] at ho
  unfold namesX at ho
  have HO := hidk ho
  clear ho
  have h601 := hC.rsl
  go_enter Tryz.func66, Tryz.ntmps66
  go_wp2_with (first
  | refine bL ?_
  | (refine bA ?_; clear hC; intro W k hC)
  | (go_at_call 35; refine aMust ?_; clear hC HO; intro st2 W hC hl HO)
  | (go_at_call 34; refine aName ?_; clear hC HO; intro s st2 W hC hl HO)
  | (go_at_call 33; guard_target = Calls _ _ #[_, _, _, Value.slice none 0 0] _ _; (first | refine useRD (q_rnode0 hC _ _ _) ?_); clear hC; intro W ao cap hC))
  
  go_loopg [3] (sl st2) (fun kx sv wr => ∃ (k : Nat) (l : List Tr) (cp : Nat) (cur : List Value) (ks : List Kid) (L' : List Tn) (st' : Option (List Tok)) (f : Nat), sv = .slice (some ⟨k, 0, none⟩) l.length cp ∧ sl st' ≤ kx ∧ Hid (Cx E B w0 wr (.r st') ((k, cur, 24) :: H) L') ∧ Hid (Rw cp l ks cur) ∧ Hid (Rin ks l L') ∧ Hid (∀ y ∈ L, y ∈ L') ∧ Hid (st'.bind (fun ts => bd (lsN (namF) f l ts) (fun l r3 => bd (sgF [41] r3) fun _ r4 => some (l, r4))) = o) ∧ sl st' ≤ f ∧ l.length + sl st' ≤ 602 ∧ sl st' ≤ sl st ∧ 0 < l.length)
  case atStart => exact ⟨_, [nd [110, 97, 109, 101] s []], 1, _, _, _, st2, sl st2, rfl, Nat.le_refl _, hC, Rw.one, Rin.one (.head _), mL, startL HO.out, Nat.le_refl _, by simp; omega, by omega, by simp⟩
  case round =>
    rename World => wr
    clear hC HO 
    obtain ⟨k, l, cp, cur, ks, L', st', f, rfl, hk, hC', hR, hN, hS, HO2, hf, h6, hst, h0⟩ := hrel
    have hC := hC'.out
    clear hC'
    cases st' with
    | none =>
      have HO : Hid ((none : Option (List Tok)).bind ((fun l r3 => bd (sgF [41] r3) fun _ r4 => some (l, r4)) l) = o) := HO2.out
      clear HO2
      go_wp2_with (first
      | refine bL ?_
      | (refine bA ?_; clear hC; intro W k hC)
      | (go_at_call 35; refine aMust ?_; clear hC HO; intro st2 W hC hl HO))
      all_goals (go_ret; exact endRL HO ((hC.made hR.out hN.out h0 [] [] 0).fin mSub (.head _) (fun y hy => .tail _ (hS.out y hy))) h0 (by omega))
    | some ts0 =>
      have hp0 := sl_pos ts0
      obtain ⟨f, rfl⟩ : ∃ f', f = f' + 1 := ⟨f - 1, by omega⟩
      have HO3 := hidk (lsN_go (J := fun r k => bd (nameF r) fun s r2 => k (nd [110, 97, 109, 101] s []) r2) (fun r k => namF_x r k) HO2.out)
      have HO : Hid ((some ts0).bind (fun ts => og (sgF [44] ts) (fun _ r => bd (nameF r) fun s r2 => (fun x r2 => bd (lsN (namF) f (l ++ [x]) r2) (fun l r3 => bd (sgF [41] r3) fun _ r4 => some (l, r4))) (nd [110, 97, 109, 101] s []) r2) ((fun l r3 => bd (sgF [41] r3) fun _ r4 => some (l, r4)) l ts)) = o) := HO3.out
      clear HO2 HO3
      go_wp2_with (first
      | refine bL ?_
      | (refine bA ?_; clear hC; intro W k hC)
      | (go_at_call 15; have hD := hC; clear hC; (first | (refine gotW hg hD _ (by decide) ?_ ?_; (focus (intro ts W e hb hC hl; have hl := sl_some hl; clear hD; cases e; replace HO := hidk (bindT hb HO.out); clear hb)); rotate_left; (focus (intro hb hC; clear hD; replace HO := hidk (bindF hb HO.out); clear hb)); rotate_left) | (refine gotS hg hD _ (by decide) ?_ ?_; (focus (intro ts r W e hb hC hl; have hl := sl_some hl; clear hD; cases e; replace HO := hidk (bindG (F := sgF _) hb HO.out); clear hb)); rotate_left; (focus (intro hb hC; clear hD; replace HO := hidk (bindH (F := sgF _) hb HO.out); clear hb)); rotate_left)))
      | (go_at_call 34; refine aName ?_; clear hC HO; intro s st2 W hC hl HO)
      | (go_at_call 33; guard_target = Calls _ _ #[_, _, _, Value.slice none 0 0] _ _; (first | refine useRD (q_rnode0 hC _ _ _) ?_); clear hC; intro W ao cap hC)
      | (at_builtin; have hD := hC; clear hC; refine wl_app1 rfl hD (.head _) 0 (by rfl) (by rfl) (by rfl) rfl hR.out (hN.out.mono mL) (by rfl) (by omega) ?_; clear hD; intro W k cap2 cur2 hC hR2 hN2; simp only [pS] at hC; (try simp only [pP]))
      | (go_at_call 35; refine aMust ?_; clear hC HO; intro st2 W hC hl HO))
      · go_roundg (sl st2)
        case measure => omega
        case rel => exact ⟨k, l ++ [nd [110, 97, 109, 101] s []], cap2, cur2, _, _, st2, f, (by simp), Nat.le_refl _, hC, hR2, hN2, (mS hS.out), HO, by omega, by simp; omega, by omega, by simp⟩
      all_goals (go_ret; exact endRL HO ((hC.made hR.out hN.out h0 [] [] 0).fin mSub (.head _) (fun y hy => .tail _ (hS.out y hy))) h0 (by omega))
end Go.Proofs.YtaenpacfbheppaaGreatDoor
namespace Go.Proofs.YtaenpacfbheppaaGreatDoor
open Go.RowKit
def typX (ts : List Tok) : Option (Tr × List Tok) := ow [115, 109, 97, 108, 108, 105, 110, 116] ts (fun r => some (nd [116, 121, 112, 101] [115, 109, 97, 108, 108, 105, 110, 116] [], r)) (ow [105, 110, 116, 101, 103, 101, 114] ts (fun r => some (nd [116, 121, 112, 101] [105, 110, 116, 101, 103, 101, 114] [], r)) (ow [98, 105, 103, 105, 110, 116] ts (fun r => some (nd [116, 121, 112, 101] [98, 105, 103, 105, 110, 116] [], r)) (ow [98, 111, 111, 108, 101, 97, 110] ts (fun r => some (nd [116, 121, 112, 101] [98, 111, 111, 108, 101, 97, 110] [], r)) (ow [105, 110, 116] ts (fun r => some (nd [116, 121, 112, 101] [105, 110, 116, 101, 103, 101, 114] [], r)) (ow [118, 97, 114, 99, 104, 97, 114] ts (fun r => bd (sgF [40] r) fun _ r2 => bd (numF r2) fun n r3 => bd (sgF [41] r3) fun _ r4 => some (.mk [116, 121, 112, 101] [118, 97, 114, 99, 104, 97, 114] n [], r4)) (ow [99, 104, 97, 114] ts (fun r => og (sgF [40] r) (fun _ r2 => bd (numF r2) fun n r3 => bd (sgF [41] r3) fun _ r4 => some (.mk [116, 121, 112, 101] [99, 104, 97, 114] n [], r4)) (some (.mk [116, 121, 112, 101] [99, 104, 97, 114] 1 [], r))) ((needF [[99, 104, 97, 114, 97, 99, 116, 101, 114]] ts).bind fun r => og (sgF [40] r) (fun _ r2 => bd (numF r2) fun n r3 => bd (sgF [41] r3) fun _ r4 => some (.mk [116, 121, 112, 101] [99, 104, 97, 114] n [], r4)) (some (.mk [116, 121, 112, 101] [99, 104, 97, 114] 1 [], r)))))))))
theorem chr_x (r : List Tok) : typF.chrF r = (og (sgF [40] r) (fun _ r2 => bd (numF r2) fun n r3 => bd (sgF [41] r3) fun _ r4 => some (.mk [116, 121, 112, 101] [99, 104, 97, 114] n [], r4)) (some (.mk [116, 121, 112, 101] [99, 104, 97, 114] 1 [], r))) := by
  unfold typF.chrF
  have e : sdB 0 3 [40] r = (sgF [40] r).isSome := by
    unfold sdB sgF oneF
    rw [List.drop_zero]
    cases r with
    | nil => rfl
    | cons t q =>
      simp only [List.contains_cons, List.contains_nil, Bool.or_false]
      cases (t.k == 3 && t.s == [40]) <;> rfl
  rw [e, parX_eq]
  unfold parX bd og
  cases sgF [40] r with
  | none => rfl
  | some p =>
    obtain ⟨_, r1⟩ := p
    cases hn : numF r1 with
    | none => simp [hn]
    | some q =>
      obtain ⟨n, r2⟩ := q
      cases hs : sgF [41] r2 <;> simp [hn, hs]
theorem var_x (r : List Tok) : (match parF numF r with | none => none | some (n, r2) => some (Tr.mk [116, 121, 112, 101] [118, 97, 114, 99, 104, 97, 114] n [], r2)) = bd (sgF [40] r) fun _ r2 => bd (numF r2) fun n r3 => bd (sgF [41] r3) fun _ r4 => some (Tr.mk [116, 121, 112, 101] [118, 97, 114, 99, 104, 97, 114] n [], r4) := by
  rw [parX_eq]
  unfold parX bd
  cases sgF [40] r with
  | none => rfl
  | some p =>
    obtain ⟨_, r1⟩ := p
    cases hn : numF r1 with
    | none => simp [hn]
    | some q =>
      obtain ⟨n, r2⟩ := q
      cases hs : sgF [41] r2 <;> simp [hn, hs]
theorem typX_eq : typF = typX := by
  funext ts
  unfold typF typX ow
  simp only [← chr_x]
  cases ts with
  | nil => rfl
  | cons t r =>
    by_cases hk : t.k = 0
    · simp only [hB hk, need1]
      by_cases w0 : t.s = [115, 109, 97, 108, 108, 105, 110, 116]
      · simp only [w0, hR0 hk w0]
        rfl
      by_cases w1 : t.s = [105, 110, 116, 101, 103, 101, 114]
      · simp only [w1, hR0 hk w1]
        rfl
      by_cases w2 : t.s = [105, 110, 116]
      · simp only [w2, hR0 hk w2]
        rfl
      by_cases w3 : t.s = [98, 105, 103, 105, 110, 116]
      · simp only [w3, hR0 hk w3]
        rfl
      by_cases w4 : t.s = [98, 111, 111, 108, 101, 97, 110]
      · simp only [w4, hR0 hk w4]
        rfl
      by_cases w5 : t.s = [99, 104, 97, 114]
      · simp only [w5, hR0 hk w5]
        rfl
      by_cases w6 : t.s = [99, 104, 97, 114, 97, 99, 116, 101, 114]
      · simp only [w6, hR0 hk w6]
        rfl
      by_cases w7 : t.s = [118, 97, 114, 99, 104, 97, 114]
      · simp only [w7, hR0 hk w7]
        exact var_x r
      simp only [beqN w0, beqN w1, beqN w2, beqN w3, beqN w4, beqN w5, beqN w6, beqN w7, Bool.false_and, Bool.false_eq_true, if_false]
      rfl
    · have e : ∀ w ws, tkB (w :: ws) (t :: r) = false := fun w ws => by simp [tkB, hk]
      simp only [e, need1, Bool.false_eq_true, if_false]
      rfl
theorem q_rtyped {E : Env} {B : Nat} {w0 w : World} {st : Option (List Tok)} {H : List Bx} {L : List Tn} (hg : GoodE E) (hC : Cx E B w0 w (.r st) H L) :
    Calls Tryz.prog 106 #[.pointer (some ⟨E.b, 0, none⟩)] w (RN E B w0 H L (st.bind (typF))) := by
  obtain ⟨o, ho⟩ : ∃ o, st.bind (typF) = o := ⟨_, rfl⟩
  rw [ho]
  rw [typX_eq] at ho
  unfold typX at ho
  have HO := hidk ho
  clear ho
  have h601 := hC.rsl
  go_enter Tryz.func106, Tryz.ntmps106
  go_wp2_with (first
  | refine bL ?_
  | (refine bA ?_; clear hC; intro W k hC)
  | (refine bS ?_; clear hC; intro W hC)
  | (refine bA ?_; clear hC; intro W k hC))
  rename_i W1 k1 K1 a1
  go_loopw [4] (fun x wr => (x = .int .i64 0 ∧ Hid (Cx E B w0 wr (.r st) ((k, [.string ⟨#[115, 109, 97, 108, 108, 105, 110, 116]⟩, .string ⟨#[105, 110, 116, 101, 103, 101, 114]⟩, .string ⟨#[98, 105, 103, 105, 110, 116]⟩, .string ⟨#[98, 111, 111, 108, 101, 97, 110]⟩], 9) :: (k1, [.string ⟨#[]⟩, .string ⟨#[]⟩, .int .i64 0, .slice none 0 0], 24) :: H) L) ∧ Hid ((st : Option (List Tok)).bind (fun ts => ow [115, 109, 97, 108, 108, 105, 110, 116] ts (fun r => some (nd [116, 121, 112, 101] [115, 109, 97, 108, 108, 105, 110, 116] [], r)) (ow [105, 110, 116, 101, 103, 101, 114] ts (fun r => some (nd [116, 121, 112, 101] [105, 110, 116, 101, 103, 101, 114] [], r)) (ow [98, 105, 103, 105, 110, 116] ts (fun r => some (nd [116, 121, 112, 101] [98, 105, 103, 105, 110, 116] [], r)) (ow [98, 111, 111, 108, 101, 97, 110] ts (fun r => some (nd [116, 121, 112, 101] [98, 111, 111, 108, 101, 97, 110] [], r)) (ow [105, 110, 116] ts (fun r => some (nd [116, 121, 112, 101] [105, 110, 116, 101, 103, 101, 114] [], r)) (ow [118, 97, 114, 99, 104, 97, 114] ts (fun r => bd (sgF [40] r) fun _ r2 => bd (numF r2) fun n r3 => bd (sgF [41] r3) fun _ r4 => some (.mk [116, 121, 112, 101] [118, 97, 114, 99, 104, 97, 114] n [], r4)) (ow [99, 104, 97, 114] ts (fun r => og (sgF [40] r) (fun _ r2 => bd (numF r2) fun n r3 => bd (sgF [41] r3) fun _ r4 => some (.mk [116, 121, 112, 101] [99, 104, 97, 114] n [], r4)) (some (.mk [116, 121, 112, 101] [99, 104, 97, 114] 1 [], r))) ((needF [[99, 104, 97, 114, 97, 99, 116, 101, 114]] ts).bind fun r => og (sgF [40] r) (fun _ r2 => bd (numF r2) fun n r3 => bd (sgF [41] r3) fun _ r4 => some (.mk [116, 121, 112, 101] [99, 104, 97, 114] n [], r4)) (some (.mk [116, 121, 112, 101] [99, 104, 97, 114] 1 [], r)))))))))) = o)) ∨ (x = .int .i64 1 ∧ Hid (Cx E B w0 wr (.r st) ((k, [.string ⟨#[115, 109, 97, 108, 108, 105, 110, 116]⟩, .string ⟨#[105, 110, 116, 101, 103, 101, 114]⟩, .string ⟨#[98, 105, 103, 105, 110, 116]⟩, .string ⟨#[98, 111, 111, 108, 101, 97, 110]⟩], 9) :: (k1, [.string ⟨#[]⟩, .string ⟨#[]⟩, .int .i64 0, .slice none 0 0], 24) :: H) L) ∧ Hid ((st : Option (List Tok)).bind (fun ts => ow [105, 110, 116, 101, 103, 101, 114] ts (fun r => some (nd [116, 121, 112, 101] [105, 110, 116, 101, 103, 101, 114] [], r)) (ow [98, 105, 103, 105, 110, 116] ts (fun r => some (nd [116, 121, 112, 101] [98, 105, 103, 105, 110, 116] [], r)) (ow [98, 111, 111, 108, 101, 97, 110] ts (fun r => some (nd [116, 121, 112, 101] [98, 111, 111, 108, 101, 97, 110] [], r)) (ow [105, 110, 116] ts (fun r => some (nd [116, 121, 112, 101] [105, 110, 116, 101, 103, 101, 114] [], r)) (ow [118, 97, 114, 99, 104, 97, 114] ts (fun r => bd (sgF [40] r) fun _ r2 => bd (numF r2) fun n r3 => bd (sgF [41] r3) fun _ r4 => some (.mk [116, 121, 112, 101] [118, 97, 114, 99, 104, 97, 114] n [], r4)) (ow [99, 104, 97, 114] ts (fun r => og (sgF [40] r) (fun _ r2 => bd (numF r2) fun n r3 => bd (sgF [41] r3) fun _ r4 => some (.mk [116, 121, 112, 101] [99, 104, 97, 114] n [], r4)) (some (.mk [116, 121, 112, 101] [99, 104, 97, 114] 1 [], r))) ((needF [[99, 104, 97, 114, 97, 99, 116, 101, 114]] ts).bind fun r => og (sgF [40] r) (fun _ r2 => bd (numF r2) fun n r3 => bd (sgF [41] r3) fun _ r4 => some (.mk [116, 121, 112, 101] [99, 104, 97, 114] n [], r4)) (some (.mk [116, 121, 112, 101] [99, 104, 97, 114] 1 [], r))))))))) = o)) ∨ (x = .int .i64 2 ∧ Hid (Cx E B w0 wr (.r st) ((k, [.string ⟨#[115, 109, 97, 108, 108, 105, 110, 116]⟩, .string ⟨#[105, 110, 116, 101, 103, 101, 114]⟩, .string ⟨#[98, 105, 103, 105, 110, 116]⟩, .string ⟨#[98, 111, 111, 108, 101, 97, 110]⟩], 9) :: (k1, [.string ⟨#[]⟩, .string ⟨#[]⟩, .int .i64 0, .slice none 0 0], 24) :: H) L) ∧ Hid ((st : Option (List Tok)).bind (fun ts => ow [98, 105, 103, 105, 110, 116] ts (fun r => some (nd [116, 121, 112, 101] [98, 105, 103, 105, 110, 116] [], r)) (ow [98, 111, 111, 108, 101, 97, 110] ts (fun r => some (nd [116, 121, 112, 101] [98, 111, 111, 108, 101, 97, 110] [], r)) (ow [105, 110, 116] ts (fun r => some (nd [116, 121, 112, 101] [105, 110, 116, 101, 103, 101, 114] [], r)) (ow [118, 97, 114, 99, 104, 97, 114] ts (fun r => bd (sgF [40] r) fun _ r2 => bd (numF r2) fun n r3 => bd (sgF [41] r3) fun _ r4 => some (.mk [116, 121, 112, 101] [118, 97, 114, 99, 104, 97, 114] n [], r4)) (ow [99, 104, 97, 114] ts (fun r => og (sgF [40] r) (fun _ r2 => bd (numF r2) fun n r3 => bd (sgF [41] r3) fun _ r4 => some (.mk [116, 121, 112, 101] [99, 104, 97, 114] n [], r4)) (some (.mk [116, 121, 112, 101] [99, 104, 97, 114] 1 [], r))) ((needF [[99, 104, 97, 114, 97, 99, 116, 101, 114]] ts).bind fun r => og (sgF [40] r) (fun _ r2 => bd (numF r2) fun n r3 => bd (sgF [41] r3) fun _ r4 => some (.mk [116, 121, 112, 101] [99, 104, 97, 114] n [], r4)) (some (.mk [116, 121, 112, 101] [99, 104, 97, 114] 1 [], r)))))))) = o)) ∨ (x = .int .i64 3 ∧ Hid (Cx E B w0 wr (.r st) ((k, [.string ⟨#[115, 109, 97, 108, 108, 105, 110, 116]⟩, .string ⟨#[105, 110, 116, 101, 103, 101, 114]⟩, .string ⟨#[98, 105, 103, 105, 110, 116]⟩, .string ⟨#[98, 111, 111, 108, 101, 97, 110]⟩], 9) :: (k1, [.string ⟨#[]⟩, .string ⟨#[]⟩, .int .i64 0, .slice none 0 0], 24) :: H) L) ∧ Hid ((st : Option (List Tok)).bind (fun ts => ow [98, 111, 111, 108, 101, 97, 110] ts (fun r => some (nd [116, 121, 112, 101] [98, 111, 111, 108, 101, 97, 110] [], r)) (ow [105, 110, 116] ts (fun r => some (nd [116, 121, 112, 101] [105, 110, 116, 101, 103, 101, 114] [], r)) (ow [118, 97, 114, 99, 104, 97, 114] ts (fun r => bd (sgF [40] r) fun _ r2 => bd (numF r2) fun n r3 => bd (sgF [41] r3) fun _ r4 => some (.mk [116, 121, 112, 101] [118, 97, 114, 99, 104, 97, 114] n [], r4)) (ow [99, 104, 97, 114] ts (fun r => og (sgF [40] r) (fun _ r2 => bd (numF r2) fun n r3 => bd (sgF [41] r3) fun _ r4 => some (.mk [116, 121, 112, 101] [99, 104, 97, 114] n [], r4)) (some (.mk [116, 121, 112, 101] [99, 104, 97, 114] 1 [], r))) ((needF [[99, 104, 97, 114, 97, 99, 116, 101, 114]] ts).bind fun r => og (sgF [40] r) (fun _ r2 => bd (numF r2) fun n r3 => bd (sgF [41] r3) fun _ r4 => some (.mk [116, 121, 112, 101] [99, 104, 97, 114] n [], r4)) (some (.mk [116, 121, 112, 101] [99, 104, 97, 114] 1 [], r))))))) = o)) ∨ (x = .int .i64 4 ∧ Hid (Cx E B w0 wr (.r st) ((k, [.string ⟨#[115, 109, 97, 108, 108, 105, 110, 116]⟩, .string ⟨#[105, 110, 116, 101, 103, 101, 114]⟩, .string ⟨#[98, 105, 103, 105, 110, 116]⟩, .string ⟨#[98, 111, 111, 108, 101, 97, 110]⟩], 9) :: (k1, [.string ⟨#[]⟩, .string ⟨#[]⟩, .int .i64 0, .slice none 0 0], 24) :: H) L) ∧ Hid ((st : Option (List Tok)).bind (fun ts => ow [105, 110, 116] ts (fun r => some (nd [116, 121, 112, 101] [105, 110, 116, 101, 103, 101, 114] [], r)) (ow [118, 97, 114, 99, 104, 97, 114] ts (fun r => bd (sgF [40] r) fun _ r2 => bd (numF r2) fun n r3 => bd (sgF [41] r3) fun _ r4 => some (.mk [116, 121, 112, 101] [118, 97, 114, 99, 104, 97, 114] n [], r4)) (ow [99, 104, 97, 114] ts (fun r => og (sgF [40] r) (fun _ r2 => bd (numF r2) fun n r3 => bd (sgF [41] r3) fun _ r4 => some (.mk [116, 121, 112, 101] [99, 104, 97, 114] n [], r4)) (some (.mk [116, 121, 112, 101] [99, 104, 97, 114] 1 [], r))) ((needF [[99, 104, 97, 114, 97, 99, 116, 101, 114]] ts).bind fun r => og (sgF [40] r) (fun _ r2 => bd (numF r2) fun n r3 => bd (sgF [41] r3) fun _ r4 => some (.mk [116, 121, 112, 101] [99, 104, 97, 114] n [], r4)) (some (.mk [116, 121, 112, 101] [99, 104, 97, 114] 1 [], r)))))) = o))) (fun x _ => 4 - (intOf x).toNat)
  case atStart => exact Or.inl ⟨rfl, hC, HO⟩
  case round =>
    rename World => wr
    clear hC HO
    rcases hrel with ⟨rfl, hC', HO⟩ | ⟨rfl, hC', HO⟩ | ⟨rfl, hC', HO⟩ | ⟨rfl, hC', HO⟩ | ⟨rfl, hC', HO⟩
    · have hC := hC'.out
      clear hC'
      go_wp2_with (first
      | refine bL ?_
      | (refine bA ?_; clear hC; intro W k hC)
      | (refine bS ?_; clear hC; intro W hC)
      | (go_at_call 15; have hD := hC; clear hC; (first | (refine gotW hg hD _ (by decide) ?_ ?_; (focus (intro ts W e hb hC hl; have hl := sl_some hl; clear hD; cases e; replace HO := hidk (bindT hb HO.out); clear hb)); rotate_left; (focus (intro hb hC; clear hD; replace HO := hidk (bindF hb HO.out); clear hb)); rotate_left) | (refine gotS hg hD _ (by decide) ?_ ?_; (focus (intro ts r W e hb hC hl; have hl := sl_some hl; clear hD; cases e; replace HO := hidk (bindG (F := sgF _) hb HO.out); clear hb)); rotate_left; (focus (intro hb hC; clear hD; replace HO := hidk (bindH (F := sgF _) hb HO.out); clear hb)); rotate_left)))
      | (go_at_call 33; guard_target = Calls _ _ #[_, _, _, Value.slice none 0 0] _ _; (first | refine useRD (q_rnode0 hC _ _ _) ?_); clear hC; intro W ao cap hC))
      rotate_right
      · go_roundw
        case rel => exact Or.inr (Or.inl ⟨rfl, hC, HO⟩)
        case measure => simp [intOf]
      all_goals (refine hC.rc ?_; first | exact endRN HO (hC.fin mSub mMem mL))
    · have hC := hC'.out
      clear hC'
      go_wp2_with (first
      | refine bL ?_
      | (refine bA ?_; clear hC; intro W k hC)
      | (refine bS ?_; clear hC; intro W hC)
      | (go_at_call 15; have hD := hC; clear hC; (first | (refine gotW hg hD _ (by decide) ?_ ?_; (focus (intro ts W e hb hC hl; have hl := sl_some hl; clear hD; cases e; replace HO := hidk (bindT hb HO.out); clear hb)); rotate_left; (focus (intro hb hC; clear hD; replace HO := hidk (bindF hb HO.out); clear hb)); rotate_left) | (refine gotS hg hD _ (by decide) ?_ ?_; (focus (intro ts r W e hb hC hl; have hl := sl_some hl; clear hD; cases e; replace HO := hidk (bindG (F := sgF _) hb HO.out); clear hb)); rotate_left; (focus (intro hb hC; clear hD; replace HO := hidk (bindH (F := sgF _) hb HO.out); clear hb)); rotate_left)))
      | (go_at_call 33; guard_target = Calls _ _ #[_, _, _, Value.slice none 0 0] _ _; (first | refine useRD (q_rnode0 hC _ _ _) ?_); clear hC; intro W ao cap hC))
      rotate_right
      · go_roundw
        case rel => exact Or.inr (Or.inr (Or.inl ⟨rfl, hC, HO⟩))
        case measure => simp [intOf]
      all_goals (refine hC.rc ?_; first | exact endRN HO (hC.fin mSub mMem mL))
    · have hC := hC'.out
      clear hC'
      go_wp2_with (first
      | refine bL ?_
      | (refine bA ?_; clear hC; intro W k hC)
      | (refine bS ?_; clear hC; intro W hC)
      | (go_at_call 15; have hD := hC; clear hC; (first | (refine gotW hg hD _ (by decide) ?_ ?_; (focus (intro ts W e hb hC hl; have hl := sl_some hl; clear hD; cases e; replace HO := hidk (bindT hb HO.out); clear hb)); rotate_left; (focus (intro hb hC; clear hD; replace HO := hidk (bindF hb HO.out); clear hb)); rotate_left) | (refine gotS hg hD _ (by decide) ?_ ?_; (focus (intro ts r W e hb hC hl; have hl := sl_some hl; clear hD; cases e; replace HO := hidk (bindG (F := sgF _) hb HO.out); clear hb)); rotate_left; (focus (intro hb hC; clear hD; replace HO := hidk (bindH (F := sgF _) hb HO.out); clear hb)); rotate_left)))
      | (go_at_call 33; guard_target = Calls _ _ #[_, _, _, Value.slice none 0 0] _ _; (first | refine useRD (q_rnode0 hC _ _ _) ?_); clear hC; intro W ao cap hC))
      rotate_right
      · go_roundw
        case rel => exact Or.inr (Or.inr (Or.inr (Or.inl ⟨rfl, hC, HO⟩)))
        case measure => simp [intOf]
      all_goals (refine hC.rc ?_; first | exact endRN HO (hC.fin mSub mMem mL))
    · have hC := hC'.out
      clear hC'
      go_wp2_with (first
      | refine bL ?_
      | (refine bA ?_; clear hC; intro W k hC)
      | (refine bS ?_; clear hC; intro W hC)
      | (go_at_call 15; have hD := hC; clear hC; (first | (refine gotW hg hD _ (by decide) ?_ ?_; (focus (intro ts W e hb hC hl; have hl := sl_some hl; clear hD; cases e; replace HO := hidk (bindT hb HO.out); clear hb)); rotate_left; (focus (intro hb hC; clear hD; replace HO := hidk (bindF hb HO.out); clear hb)); rotate_left) | (refine gotS hg hD _ (by decide) ?_ ?_; (focus (intro ts r W e hb hC hl; have hl := sl_some hl; clear hD; cases e; replace HO := hidk (bindG (F := sgF _) hb HO.out); clear hb)); rotate_left; (focus (intro hb hC; clear hD; replace HO := hidk (bindH (F := sgF _) hb HO.out); clear hb)); rotate_left)))
      | (go_at_call 33; guard_target = Calls _ _ #[_, _, _, Value.slice none 0 0] _ _; (first | refine useRD (q_rnode0 hC _ _ _) ?_); clear hC; intro W ao cap hC))
      rotate_right
      · go_roundw
        case rel => exact Or.inr (Or.inr (Or.inr (Or.inr (⟨rfl, hC, HO⟩))))
        case measure => simp [intOf]
      all_goals (refine hC.rc ?_; first | exact endRN HO (hC.fin mSub mMem mL))
    · have hC := hC'.out
      clear hC'
      go_wp2_with (first
      | refine bL ?_
      | (refine bA ?_; clear hC; intro W k hC)
      | (refine bS ?_; clear hC; intro W hC)
      | (go_at_call 15; have hD := hC; clear hC; (first | (refine gotW hg hD _ (by decide) ?_ ?_; (focus (intro ts W e hb hC hl; have hl := sl_some hl; clear hD; cases e; replace HO := hidk (bindT hb HO.out); clear hb)); rotate_left; (focus (intro hb hC; clear hD; replace HO := hidk (bindF hb HO.out); clear hb)); rotate_left) | (refine gotS hg hD _ (by decide) ?_ ?_; (focus (intro ts r W e hb hC hl; have hl := sl_some hl; clear hD; cases e; replace HO := hidk (bindG (F := sgF _) hb HO.out); clear hb)); rotate_left; (focus (intro hb hC; clear hD; replace HO := hidk (bindH (F := sgF _) hb HO.out); clear hb)); rotate_left)))
      | (go_at_call 35; refine aMust ?_; clear hC HO; intro st2 W hC hl HO)
      | (go_at_call 103; refine useRI (q_rnumber hC) ?_; clear hC; intro s st2 W he hC; have hl := sl_lt (fun _ _ _ h => by have := numF_len h; omega) he; replace HO := hidk (bindN he HO.out); clear he)
      | (go_at_call 33; guard_target = Calls _ _ #[_, _, _, Value.slice none 0 0] _ _; (first | refine useRD (q_rnode0 hC _ _ _) ?_); clear hC; intro W ao cap hC))
      all_goals (refine hC.rc ?_; first | exact endRN HO (hC.fin mSub mMem mL))
end Go.Proofs.YtaenpacfbheppaaGreatDoor
namespace Go.Proofs.YtaenpacfbheppaaGreatDoor
open Go.RowKit
def inX (R : Rc) (s : Tr) (ts : List Tok) : Option (Tr × List Tok) := if opnB ts = true then bd (parF R.body ts) fun b r => some (nd [105, 110] [113, 117, 101, 114, 121] [s, b], r) else bd (sgF [40] ts) fun _ r => bd (lsF R.expr r) fun l r2 => bd (sgF [41] r2) fun _ r3 => some (nd [105, 110] [] (s :: l), r3)
theorem q_rin {E : Env} {B : Nat} {w0 w : World} {st : Option (List Tok)} {H : List Bx} {L : List Tn} {R : Rc} {n : Nat} (RC : Cw E R n) {aS : Option Addr} {pZ : Nat} {s : Tr} (ht : (aS, pZ, s) ∈ L) (hg : GoodE E) (hC : Cx E B w0 w (.r st) H L) (hn : sl st ≤ n) (h0 : 0 < n) :
    Calls Tryz.prog 170 #[.pointer (some ⟨E.b, 0, none⟩), nv s.op s.s s.n aS s.L.length pZ] w (RN E B w0 H L (st.bind (inX R s))) := by
  obtain ⟨o, ho⟩ : ∃ o, st.bind (inX R s) = o := ⟨_, rfl⟩
  rw [ho]
  unfold inX at ho
  have HO := hidk ho
  clear ho
  have h601 := hC.rsl
  go_enter Tryz.func170, Tryz.ntmps170
  go_wp2_with (first
  | (refine bA ?_; clear hC; intro W k hC)
  | ((first | refine hC.bP ?_ | refine hC.bN ?_ | refine hC.b1 ?_); clear hC; intro W k hC; (try simp only [pP]))
  | refine bL ?_
  | (refine bS ?_; clear hC; intro W hC)
  | (go_at_call 68; have hD := hC; clear hC; refine opensK hg hD ?_ ?_; (focus (intro ts e hb hC; clear hD; have hp := sl_pos ts; first | (cases e; done) | (cases e; replace HO := hidk (bindC (c := opnB) hb HO.out); clear hb))); rotate_left; (focus (intro hb hC; clear hD; replace HO := hidk (bindD (c := opnB) hb HO.out); clear hb); rotate_left))
  | (go_at_call 35; refine aMust ?_; clear hC HO; intro st2 W hC hl HO)
  | (guard_target = Code.wp _ (Code.region 3 _ true) _ _ _; refine wp_region_held_drew (S := HB [_]) (by kernel_rfl) (hC.drew.hbI1 1 (by rfl)) (fun hHeld => ?_); replace hC := hC.drew; refine qkN 0 ?_; (try simp only [pQ]); refine qk 1 ?_; (try simp only [pQ]); refine ry [2] ?_; refine rd1 fun K hK => ?_; go_simp; (first | (go_at_call 179; refine useRN (q_inner RC hg hC (by omega) (by omega)) ?_; clear hC; intro t st2 W ao cap he hC; have hl := sl_of (fun ts x r h => by have := parF_len RC.len.body h; omega) he; replace HO := hidk (bindN he HO.out); clear he)); refine hK.out _ _ hC.hb1' fun hHeld => ?_; clear hK K; (try simp only [pQ]); refine ry [3] ?_; refine rd1 fun K hK => ?_; refine st_of rfl ?_; refine wp_build2C hC (by rfl) (by rfl) (by rfl) ?_; clear hC; intro W k hC; refine hK.out _ _ hC.hb1' fun hHeld => ?_; clear hK K; (try simp only [pQ]); refine ry [4] ?_; refine rd1 fun K hK => ?_; go_simp; (first | (go_at_call 33; guard_target = Calls _ _ #[_, _, _, Value.slice (some _) 2 2] _ _; (first | refine useRD (q_rnode2 _ _ _ hC (.tail _ ht) (.head _)) ?_); clear hC; intro W ao cap hC)); refine hK.out _ _ hC.hb1' fun hHeld => ?_; clear hK K; (try simp only [pQ]); refine ry [5] ?_; refine rd1 fun K hK => ?_; refine st_of rfl ?_; refine wsN ?_; clear hC; intro W hC; refine hK.out _ _ hC.hb1' fun hHeld => ?_; clear hK K; (try simp only [pQ]); refine dn ?_ _)
  | (guard_target = Code.wp _ (Code.region 5 _ true) _ _ _; refine wp_region_held_drew (S := HB [_]) (by kernel_rfl) (hC.drew.hbI1 1 (by rfl)) (fun hHeld => ?_); replace hC := hC.drew; refine qkN 0 ?_; (try simp only [pQ]); refine qk 2 ?_; (try simp only [pQ]); refine ry [1, 3] ?_; refine AllReadyH.cons rfl (fun K hK => ?_) (AllReadyH.cons rfl (fun K hK => ?_) AllReadyH.nil); (focus (refine st_of rfl ?_; refine wp_build1C hC (by rfl) (by rfl) ?_; clear hC; intro W k hC; refine hK.out _ _ hC.hb1' fun hHeld => ?_; clear hK K; (try simp only [pQ]); refine ry [3] ?_; refine rd1 fun K hK => ?_; go_simp; (first | (go_at_call 109; refine useRL (q_rexprs RC hg hC (by omega)) ?_; clear hC; intro l st2 W ao cap he hC h0l h1l; have hl := sl_of (lsF_Len RC.len.expr) he; replace HO := hidk (bindN he HO.out); clear he)); refine hK.out _ _ hC.hb1' fun hHeld => ?_; clear hK K; (try simp only [pQ]); refine ry [4] ?_; refine rd1 fun K hK => ?_; (first | (refine st_of rfl ?_; refine wp_appL hC (.tail _ ht) (by rfl) (by rfl) (.head _) (by rfl) rfl (by omega) (by omega) ?_; clear hC; intro W g2 cap2 hC)); refine hK.out _ _ hC.hb1' fun hHeld => ?_; clear hK K; (try simp only [pQ]); refine ry [5] ?_; refine rd1 fun K hK => ?_; go_simp; refine hK.out _ _ hC.hb1' fun hHeld => ?_; clear hK K; (try simp only [pQ]); refine dn ?_ _)); rotate_left; (focus (go_simp; (first | (go_at_call 109; refine useRL (q_rexprs RC hg hC (by omega)) ?_; clear hC; intro l st2 W ao cap he hC h0l h1l; have hl := sl_of (lsF_Len RC.len.expr) he; replace HO := hidk (bindN he HO.out); clear he)); refine hK.out _ _ hC.hb1' fun hHeld => ?_; clear hK K; (try simp only [pQ]); refine ry [1] ?_; refine rd1 fun K hK => ?_; refine st_of rfl ?_; refine wp_build1C hC (by rfl) (by rfl) ?_; clear hC; intro W k hC; refine hK.out _ _ hC.hb1' fun hHeld => ?_; clear hK K; (try simp only [pQ]); refine ry [4] ?_; refine rd1 fun K hK => ?_; (first | (refine st_of rfl ?_; refine wp_appL hC (.tail _ ht) (by rfl) (by rfl) (.head _) (by rfl) rfl (by omega) (by omega) ?_; clear hC; intro W g2 cap2 hC)); refine hK.out _ _ hC.hb1' fun hHeld => ?_; clear hK K; (try simp only [pQ]); refine ry [5] ?_; refine rd1 fun K hK => ?_; go_simp; refine hK.out _ _ hC.hb1' fun hHeld => ?_; clear hK K; (try simp only [pQ]); refine dn ?_ _)); rotate_left)
  | (go_at_call 33; have hD := hC; clear hC; (first | refine useRD (q_rnodeL _ _ _ hD (.head _) (by simp) (by simp; omega)) ?_); intro W ao cap hC; clear hD))
  all_goals (refine hC.rc ?_; first | exact endRN HO (hC.fin mSub mMem mL) | exact endR0 HO (hC.fin mSub mMem mL))
def calX (R : Rc) (ts : List Tok) : Option (Tr × List Tok) := ow [99, 111, 117, 110, 116] ts (fun r => parF (totF R [99, 111, 117, 110, 116]) r) (ow [115, 117, 109] ts (fun r => parF (totF R [115, 117, 109]) r) (ow [109, 105, 110] ts (fun r => parF (totF R [109, 105, 110]) r) (ow [109, 97, 120] ts (fun r => parF (totF R [109, 97, 120]) r) (ow [99, 97, 115, 116] ts (fun r => bd (sgF [40] r) fun _ r1 => bd (R.expr r1) fun e r2 => (needF [[97, 115]] r2).bind fun r3 => bd (typF r3) fun t r4 => bd (sgF [41] r4) fun _ r5 => some (nd [99, 97, 115, 116] [] [t, e], r5)) (ow [99, 111, 97, 108, 101, 115, 99, 101] ts (fun r => bd (sgF [40] r) fun _ r1 => bd (lsF R.expr r1) fun l r2 => bd (sgF [41] r2) fun _ r3 => some (nd [99, 111, 97, 108, 101, 115, 99, 101] [] l, r3)) (ow [110, 117, 108, 108, 105, 102] ts (fun r => bd (sgF [40] r) fun _ r1 => bd (R.expr r1) fun e r2 => bd (sgF [44] r2) fun _ r3 => bd (R.expr r3) fun f r4 => bd (sgF [41] r4) fun _ r5 => some (nd [110, 117, 108, 108, 105, 102] [] [e, f], r5)) (colF ts)))))))
theorem bindAll {α : Type} {F : Ps α} {st st' : Option (List Tok)} {o : Option (α × List Tok)} {t : α} (h : st.bind F = o) (he : st.bind F = st'.map (Prod.mk t)) : st'.bind (fun r => some (t, r)) = o := by
  rw [← h, he]
  cases st' <;> rfl
theorem q_rcall {E : Env} {B : Nat} {w0 w : World} {st : Option (List Tok)} {H : List Bx} {L : List Tn} {R : Rc} {n : Nat} (RC : Cw E R n) (hg : GoodE E) (hC : Cx E B w0 w (.r st) H L) (hn : sl st ≤ n) :
    Calls Tryz.prog 203 #[.pointer (some ⟨E.b, 0, none⟩)] w (RN E B w0 H L (st.bind (calX R))) := by
  obtain ⟨o, ho⟩ : ∃ o, st.bind (calX R) = o := ⟨_, rfl⟩
  rw [ho]
  unfold calX at ho
  have HO := hidk ho
  clear ho
  have h601 := hC.rsl
  go_enter Tryz.func203, Tryz.ntmps203
  go_wp2_with (first
  | refine bL ?_
  | (refine bA ?_; clear hC; intro W k hC)
  | (refine bS ?_; clear hC; intro W hC)
  | (refine bA ?_; clear hC; intro W k hC))
  rename_i W1 k1 K1 a1
  go_loopw [4] (fun x wr => (x = .int .i64 0 ∧ Hid (Cx E B w0 wr (.r st) ((k, [.string ⟨#[99, 111, 117, 110, 116]⟩, .string ⟨#[115, 117, 109]⟩, .string ⟨#[109, 105, 110]⟩, .string ⟨#[109, 97, 120]⟩], 9) :: (k1, [.string ⟨#[]⟩, .string ⟨#[]⟩, .int .i64 0, .slice none 0 0], 24) :: H) L) ∧ Hid ((st : Option (List Tok)).bind (fun ts => ow [99, 111, 117, 110, 116] ts (fun r => parF (totF R [99, 111, 117, 110, 116]) r) (ow [115, 117, 109] ts (fun r => parF (totF R [115, 117, 109]) r) (ow [109, 105, 110] ts (fun r => parF (totF R [109, 105, 110]) r) (ow [109, 97, 120] ts (fun r => parF (totF R [109, 97, 120]) r) (ow [99, 97, 115, 116] ts (fun r => bd (sgF [40] r) fun _ r1 => bd (R.expr r1) fun e r2 => (needF [[97, 115]] r2).bind fun r3 => bd (typF r3) fun t r4 => bd (sgF [41] r4) fun _ r5 => some (nd [99, 97, 115, 116] [] [t, e], r5)) (ow [99, 111, 97, 108, 101, 115, 99, 101] ts (fun r => bd (sgF [40] r) fun _ r1 => bd (lsF R.expr r1) fun l r2 => bd (sgF [41] r2) fun _ r3 => some (nd [99, 111, 97, 108, 101, 115, 99, 101] [] l, r3)) (ow [110, 117, 108, 108, 105, 102] ts (fun r => bd (sgF [40] r) fun _ r1 => bd (R.expr r1) fun e r2 => bd (sgF [44] r2) fun _ r3 => bd (R.expr r3) fun f r4 => bd (sgF [41] r4) fun _ r5 => some (nd [110, 117, 108, 108, 105, 102] [] [e, f], r5)) (colF ts)))))))) = o)) ∨ (x = .int .i64 1 ∧ Hid (Cx E B w0 wr (.r st) ((k, [.string ⟨#[99, 111, 117, 110, 116]⟩, .string ⟨#[115, 117, 109]⟩, .string ⟨#[109, 105, 110]⟩, .string ⟨#[109, 97, 120]⟩], 9) :: (k1, [.string ⟨#[]⟩, .string ⟨#[]⟩, .int .i64 0, .slice none 0 0], 24) :: H) L) ∧ Hid ((st : Option (List Tok)).bind (fun ts => ow [115, 117, 109] ts (fun r => parF (totF R [115, 117, 109]) r) (ow [109, 105, 110] ts (fun r => parF (totF R [109, 105, 110]) r) (ow [109, 97, 120] ts (fun r => parF (totF R [109, 97, 120]) r) (ow [99, 97, 115, 116] ts (fun r => bd (sgF [40] r) fun _ r1 => bd (R.expr r1) fun e r2 => (needF [[97, 115]] r2).bind fun r3 => bd (typF r3) fun t r4 => bd (sgF [41] r4) fun _ r5 => some (nd [99, 97, 115, 116] [] [t, e], r5)) (ow [99, 111, 97, 108, 101, 115, 99, 101] ts (fun r => bd (sgF [40] r) fun _ r1 => bd (lsF R.expr r1) fun l r2 => bd (sgF [41] r2) fun _ r3 => some (nd [99, 111, 97, 108, 101, 115, 99, 101] [] l, r3)) (ow [110, 117, 108, 108, 105, 102] ts (fun r => bd (sgF [40] r) fun _ r1 => bd (R.expr r1) fun e r2 => bd (sgF [44] r2) fun _ r3 => bd (R.expr r3) fun f r4 => bd (sgF [41] r4) fun _ r5 => some (nd [110, 117, 108, 108, 105, 102] [] [e, f], r5)) (colF ts))))))) = o)) ∨ (x = .int .i64 2 ∧ Hid (Cx E B w0 wr (.r st) ((k, [.string ⟨#[99, 111, 117, 110, 116]⟩, .string ⟨#[115, 117, 109]⟩, .string ⟨#[109, 105, 110]⟩, .string ⟨#[109, 97, 120]⟩], 9) :: (k1, [.string ⟨#[]⟩, .string ⟨#[]⟩, .int .i64 0, .slice none 0 0], 24) :: H) L) ∧ Hid ((st : Option (List Tok)).bind (fun ts => ow [109, 105, 110] ts (fun r => parF (totF R [109, 105, 110]) r) (ow [109, 97, 120] ts (fun r => parF (totF R [109, 97, 120]) r) (ow [99, 97, 115, 116] ts (fun r => bd (sgF [40] r) fun _ r1 => bd (R.expr r1) fun e r2 => (needF [[97, 115]] r2).bind fun r3 => bd (typF r3) fun t r4 => bd (sgF [41] r4) fun _ r5 => some (nd [99, 97, 115, 116] [] [t, e], r5)) (ow [99, 111, 97, 108, 101, 115, 99, 101] ts (fun r => bd (sgF [40] r) fun _ r1 => bd (lsF R.expr r1) fun l r2 => bd (sgF [41] r2) fun _ r3 => some (nd [99, 111, 97, 108, 101, 115, 99, 101] [] l, r3)) (ow [110, 117, 108, 108, 105, 102] ts (fun r => bd (sgF [40] r) fun _ r1 => bd (R.expr r1) fun e r2 => bd (sgF [44] r2) fun _ r3 => bd (R.expr r3) fun f r4 => bd (sgF [41] r4) fun _ r5 => some (nd [110, 117, 108, 108, 105, 102] [] [e, f], r5)) (colF ts)))))) = o)) ∨ (x = .int .i64 3 ∧ Hid (Cx E B w0 wr (.r st) ((k, [.string ⟨#[99, 111, 117, 110, 116]⟩, .string ⟨#[115, 117, 109]⟩, .string ⟨#[109, 105, 110]⟩, .string ⟨#[109, 97, 120]⟩], 9) :: (k1, [.string ⟨#[]⟩, .string ⟨#[]⟩, .int .i64 0, .slice none 0 0], 24) :: H) L) ∧ Hid ((st : Option (List Tok)).bind (fun ts => ow [109, 97, 120] ts (fun r => parF (totF R [109, 97, 120]) r) (ow [99, 97, 115, 116] ts (fun r => bd (sgF [40] r) fun _ r1 => bd (R.expr r1) fun e r2 => (needF [[97, 115]] r2).bind fun r3 => bd (typF r3) fun t r4 => bd (sgF [41] r4) fun _ r5 => some (nd [99, 97, 115, 116] [] [t, e], r5)) (ow [99, 111, 97, 108, 101, 115, 99, 101] ts (fun r => bd (sgF [40] r) fun _ r1 => bd (lsF R.expr r1) fun l r2 => bd (sgF [41] r2) fun _ r3 => some (nd [99, 111, 97, 108, 101, 115, 99, 101] [] l, r3)) (ow [110, 117, 108, 108, 105, 102] ts (fun r => bd (sgF [40] r) fun _ r1 => bd (R.expr r1) fun e r2 => bd (sgF [44] r2) fun _ r3 => bd (R.expr r3) fun f r4 => bd (sgF [41] r4) fun _ r5 => some (nd [110, 117, 108, 108, 105, 102] [] [e, f], r5)) (colF ts))))) = o)) ∨ (x = .int .i64 4 ∧ Hid (Cx E B w0 wr (.r st) ((k, [.string ⟨#[99, 111, 117, 110, 116]⟩, .string ⟨#[115, 117, 109]⟩, .string ⟨#[109, 105, 110]⟩, .string ⟨#[109, 97, 120]⟩], 9) :: (k1, [.string ⟨#[]⟩, .string ⟨#[]⟩, .int .i64 0, .slice none 0 0], 24) :: H) L) ∧ Hid ((st : Option (List Tok)).bind (fun ts => ow [99, 97, 115, 116] ts (fun r => bd (sgF [40] r) fun _ r1 => bd (R.expr r1) fun e r2 => (needF [[97, 115]] r2).bind fun r3 => bd (typF r3) fun t r4 => bd (sgF [41] r4) fun _ r5 => some (nd [99, 97, 115, 116] [] [t, e], r5)) (ow [99, 111, 97, 108, 101, 115, 99, 101] ts (fun r => bd (sgF [40] r) fun _ r1 => bd (lsF R.expr r1) fun l r2 => bd (sgF [41] r2) fun _ r3 => some (nd [99, 111, 97, 108, 101, 115, 99, 101] [] l, r3)) (ow [110, 117, 108, 108, 105, 102] ts (fun r => bd (sgF [40] r) fun _ r1 => bd (R.expr r1) fun e r2 => bd (sgF [44] r2) fun _ r3 => bd (R.expr r3) fun f r4 => bd (sgF [41] r4) fun _ r5 => some (nd [110, 117, 108, 108, 105, 102] [] [e, f], r5)) (colF ts)))) = o))) (fun x _ => 4 - (intOf x).toNat)
  case atStart => exact Or.inl ⟨rfl, hC, HO⟩
  case round =>
    rename World => wr
    clear hC HO
    rcases hrel with ⟨rfl, hC', HO⟩ | ⟨rfl, hC', HO⟩ | ⟨rfl, hC', HO⟩ | ⟨rfl, hC', HO⟩ | ⟨rfl, hC', HO⟩
    · have hC := hC'.out
      clear hC'
      go_wp2_with (first
      | refine bL ?_
      | (refine bA ?_; clear hC; intro W k hC)
      | (refine bS ?_; clear hC; intro W hC)
      | (go_at_call 15; refine aGot ?_ ?_ <;> clear hC HO; (focus (intro ts r W hC e hl HO; first | (cases e; done) | cases e)); rotate_left; (focus (intro hC HO)); rotate_left)
      | (go_at_call 207; refine useRN (q_rtotal RC _ hg hC (by omega) (by omega)) ?_; clear hC; intro t st2 W ao cap he hC; have hl := sl_of (fun ts x r h => by have := parF_len (totF_Len RC.len _) h; omega) he; replace HO := hidk ((bindAll HO.out he)); clear he))
      rotate_right
      · go_roundw
        case rel => exact Or.inr (Or.inl ⟨rfl, hC, HO⟩)
        case measure => simp [intOf]
      all_goals (refine hC.rc ?_; first | exact endRN HO (hC.fin mSub mMem mL))
    · have hC := hC'.out
      clear hC'
      go_wp2_with (first
      | refine bL ?_
      | (refine bA ?_; clear hC; intro W k hC)
      | (refine bS ?_; clear hC; intro W hC)
      | (go_at_call 15; refine aGot ?_ ?_ <;> clear hC HO; (focus (intro ts r W hC e hl HO; first | (cases e; done) | cases e)); rotate_left; (focus (intro hC HO)); rotate_left)
      | (go_at_call 207; refine useRN (q_rtotal RC _ hg hC (by omega) (by omega)) ?_; clear hC; intro t st2 W ao cap he hC; have hl := sl_of (fun ts x r h => by have := parF_len (totF_Len RC.len _) h; omega) he; replace HO := hidk ((bindAll HO.out he)); clear he))
      rotate_right
      · go_roundw
        case rel => exact Or.inr (Or.inr (Or.inl ⟨rfl, hC, HO⟩))
        case measure => simp [intOf]
      all_goals (refine hC.rc ?_; first | exact endRN HO (hC.fin mSub mMem mL))
    · have hC := hC'.out
      clear hC'
      go_wp2_with (first
      | refine bL ?_
      | (refine bA ?_; clear hC; intro W k hC)
      | (refine bS ?_; clear hC; intro W hC)
      | (go_at_call 15; refine aGot ?_ ?_ <;> clear hC HO; (focus (intro ts r W hC e hl HO; first | (cases e; done) | cases e)); rotate_left; (focus (intro hC HO)); rotate_left)
      | (go_at_call 207; refine useRN (q_rtotal RC _ hg hC (by omega) (by omega)) ?_; clear hC; intro t st2 W ao cap he hC; have hl := sl_of (fun ts x r h => by have := parF_len (totF_Len RC.len _) h; omega) he; replace HO := hidk ((bindAll HO.out he)); clear he))
      rotate_right
      · go_roundw
        case rel => exact Or.inr (Or.inr (Or.inr (Or.inl ⟨rfl, hC, HO⟩)))
        case measure => simp [intOf]
      all_goals (refine hC.rc ?_; first | exact endRN HO (hC.fin mSub mMem mL))
    · have hC := hC'.out
      clear hC'
      go_wp2_with (first
      | refine bL ?_
      | (refine bA ?_; clear hC; intro W k hC)
      | (refine bS ?_; clear hC; intro W hC)
      | (go_at_call 15; refine aGot ?_ ?_ <;> clear hC HO; (focus (intro ts r W hC e hl HO; first | (cases e; done) | cases e)); rotate_left; (focus (intro hC HO)); rotate_left)
      | (go_at_call 207; refine useRN (q_rtotal RC _ hg hC (by omega) (by omega)) ?_; clear hC; intro t st2 W ao cap he hC; have hl := sl_of (fun ts x r h => by have := parF_len (totF_Len RC.len _) h; omega) he; replace HO := hidk ((bindAll HO.out he)); clear he))
      rotate_right
      · go_roundw
        case rel => exact Or.inr (Or.inr (Or.inr (Or.inr (⟨rfl, hC, HO⟩))))
        case measure => simp [intOf]
      all_goals (refine hC.rc ?_; first | exact endRN HO (hC.fin mSub mMem mL))
    · have hC := hC'.out
      clear hC'
      go_wp2_with (first
      | refine bL ?_
      | (refine bA ?_; clear hC; intro W k hC)
      | (refine bS ?_; clear hC; intro W hC)
      | (go_at_call 15; refine aGot ?_ ?_ <;> clear hC HO; (focus (intro ts r W hC e hl HO; first | (cases e; done) | cases e)); rotate_left; (focus (intro hC HO)); rotate_left)
      | (go_at_call 35; refine aMust ?_; clear hC HO; intro st2 W hC hl HO)
      | (go_at_call 70; refine uN (RC.expr hC (by omega)) HO ?_; clear hC HO; intro t st2 W ao cap he hC HO; have hl := sl_of RC.len.expr he; clear he)
      | (go_at_call 109; refine useRL (q_rexprs RC hg hC (by omega)) ?_; clear hC; intro l st2 W ao cap he hC h0l h1l; have hl := sl_of (lsF_Len RC.len.expr) he; replace HO := hidk (bindN he HO.out); clear he)
      | (go_at_call 106; refine uN (q_rtyped hg hC) HO ?_; clear hC HO; intro t st2 W ao cap he hC HO; have hl := sl_of (fun ts x r h => typF_len h) he; clear he)
      | (go_at_call 104; refine useRN (q_rcol hg hC) ?_; clear hC; intro t st2 W ao cap he hC; have hl := sl_of (fun ts x r h => colF_len h) he; replace HO := hidk ((bindAll HO.out he)); clear he)
      | (go_at_call 33; guard_target = Calls _ _ #[_, _, _, Value.slice (some _) 2 2] _ _; refine m6 ?_; clear hC; intro W ao cap hC)
      | (go_at_call 33; have hD := hC; clear hC; refine m7 ?_; intro W ao cap hC; clear hD))
      all_goals (refine hC.rc ?_; first | exact endRN HO (hC.fin mSub mMem mL))
end Go.Proofs.YtaenpacfbheppaaGreatDoor
namespace Go.Proofs.YtaenpacfbheppaaGreatDoor
open Go.RowKit
section
variable {E : Env} {B : Nat} {w0 w : World} {s : Stt} {H : List Bx} {L : List Tn} {a : Act} {K : Act → World → Prop} {Q : Exit → Act → World → Prop} {o : Oper}
theorem wp_app1R {k2 T2 : Nat} {a1 : Option Addr} {p1 : Nat} {t1 : Tr} (hC : Cx E B w0 w s ((k2, ncs a1 p1 t1, T2) :: H) L) (h1 : (a1, p1, t1) ∈ L) (i : Nat) {x y : Operand} (ho : o.op = .call { callee := .builtin .append, args := #[x, y], argTypes := #[22, 22] }) {k n cap : Nat} {cur : List Value} {l : List Tr} {ks : List Kid} (hi : H[i]? = some (k, cur, 24)) (hx : a.eval x = .slice (some ⟨k, 0, none⟩) n cap) (hn : n = l.length) (hr : Rw cap l ks cur) (hin : Rin ks l L)
    (hy : a.eval y = .slice (some ⟨k2, 0, none⟩) 1 1) (hbig : n ≤ 10000)
    (h : ∀ W g cap' cur', Cx E B w0 W s (H.set i (g, cur', 24)) L → Rw cap' (l ++ [t1]) (ks ++ [(a1, p1)]) cur' → Rin (ks ++ [(a1, p1)]) (l ++ [t1]) L → K (a.put o.dst (.slice (some ⟨g, 0, none⟩) (n + 1) cap')) W) : o.wp Tryz.prog a w K Q := by
  refine wp_appN (ty := 0) hC (i + 1) (l2 := [t1]) (k2 := [(a1, p1)]) ho (by simpa using hi) hx hn hr hy rfl (by decide) rfl ?_ (by omega) ?_
  · intro j u hu
    have e : flatK [(a1, p1)] [t1] = ncs a1 p1 t1 := by simp [flatK]
    rw [e] at hu
    have := hC.cell 0 rfl j hu
    rwa [Addr.add_mid, Nat.zero_add]
  · intro W g cap' cur' hD hR
    rw [List.set_cons_succ] at hD
    exact h W g cap' cur' (hD.less (List.sublist_cons_self _ _) (fun x hx => hx)) hR (Rin.app hr.kl hin (Rin.one h1))
theorem wp_app0B {k2 T2 : Nat} {a1 : Option Addr} {p1 : Nat} {t1 : Tr} (hC : Cx E B w0 w s ((k2, ncs a1 p1 t1, T2) :: H) L) (h1 : (a1, p1, t1) ∈ L) {x y : Operand} (ho : o.op = .call { callee := .builtin .append, args := #[x, y], argTypes := #[22, 22] }) (hx : a.eval x = .slice none 0 0)
    (hy : a.eval y = .slice (some ⟨k2, 0, none⟩) 1 1)
    (h : ∀ W g cap' cur', Cx E B w0 W s ((g, cur', 24) :: H) L → Rw cap' [t1] [(a1, p1)] cur' → Rin [(a1, p1)] [t1] L → K (a.put o.dst (.slice (some ⟨g, 0, none⟩) 1 cap')) W) : o.wp Tryz.prog a w K Q := by
  obtain ⟨ie, hie, hz, hsz, hby⟩ := info_parts infoN
  have hown : w.ownsRow 0 24 4 (.slice none 0 0) 0 [] := ⟨rfl, Or.inl ⟨rfl, rfl⟩⟩
  refine wp_append_lies w x y 22 ho 0 24 ie _ 4 64 undNs hie hz hsz hby rfl (by decide) (.slice none 0 0) 0 [] hx hown ⟨k2, 0, none⟩ 1 1 (flatK [(a1, p1)] [t1]) hy (by simp [flatK, ncs]) (fun j u hu => ?_) (flatK_one _ _) (by decide) (by unfold maxLen; omega) (by omega) (Nat.zero_le _) w.heap.size rfl ?_
  · have e : flatK [(a1, p1)] [t1] = ncs a1 p1 t1 := by simp [flatK]
    rw [e] at hu
    have := hC.cell 0 rfl j hu
    rwa [Addr.add_mid, Nat.zero_add]
  intro g cap' w' hr' hgr hgk hlt
  obtain ⟨hlen, h2 | ⟨g', cap2, cur2, hv, _, hh, hc1, hc2, hsz2, hcells⟩⟩ := hr'
  · cases h2.1
  cases hv
  have hgs : g = w.heap.size := by
    rcases hgk with h | h
    · cases h
    · exact h
  subst hgs
  have hb : Below w.heap.size w w' := ⟨hgr.os, hgr.tape, hgr.output, hgr.size, fun j hj => hgr.block j hj (by intro e; cases e)⟩
  have hD := (hC.less (List.sublist_cons_self _ _) (fun x hx => hx)).came hb (cs := cur2.toList) (T := 24) (by simpa using hh)
  rw [Nat.zero_add]
  exact h w' _ cap' _ hD ⟨by simp [hsz2], by simpa using hc1, hc2, rfl, by simpa using hcells⟩ (Rin.one h1)
theorem wl_app0B {ops : Array Oper} {rest : List Oper} (hgd : o.guard = none) {k2 T2 : Nat} {a1 : Option Addr} {p1 : Nat} {t1 : Tr} (hC : Cx E B w0 w s ((k2, ncs a1 p1 t1, T2) :: H) L) (h1 : (a1, p1, t1) ∈ L) {x y : Operand} (ho : o.op = .call { callee := .builtin .append, args := #[x, y], argTypes := #[22, 22] }) (hx : a.eval x = .slice none 0 0)
    (hy : a.eval y = .slice (some ⟨k2, 0, none⟩) 1 1)
    (h : ∀ W g cap' cur', Cx E B w0 W s ((g, cur', 24) :: H) L → Rw cap' [t1] [(a1, p1)] cur' → Rin [(a1, p1)] [t1] L → wpList Tryz.prog ops Q rest (a.put o.dst (.slice (some ⟨g, 0, none⟩) 1 cap')) W) : wpList Tryz.prog ops Q (o :: rest) a w :=
  wpList_plain hgd fun K hK => wp_app0B hC h1 ho hx hy (fun W g cap' cur' h1 h2 h3 => hK _ _ (h W g cap' cur' h1 h2 h3))
end
def cnd (of : Option Tr) (c : Tr) : Tr := match of with
  | none => c
  | some o => nd [61] [] [o, c]
def WH (R : Rc) (of : Option Tr) (ts : List Tok) (K : Tr → List Tok → Option (Tr × List Tok)) : Option (Tr × List Tok) := (needF [[119, 104, 101, 110]] ts).bind fun r => bd (R.expr r) fun c r2 => (needF [[116, 104, 101, 110]] r2).bind fun r3 => bd (R.expr r3) fun e r4 => K (nd [119, 104, 101, 110] [] [cnd of c, e]) r4
theorem whenF_x (R : Rc) (of : Option Tr) (ts : List Tok) (K : Tr → List Tok → Option (Tr × List Tok)) : bd (whenF R of ts) K = WH R of ts K := by
  unfold whenF WH
  cases needF [[119, 104, 101, 110]] ts with
  | none => rfl
  | some r =>
    simp only [Option.bind_some]
    cases R.expr r with
    | none => rfl
    | some p =>
      obtain ⟨c, r2⟩ := p
      simp only [bd]
      cases needF [[116, 104, 101, 110]] r2 with
      | none => rfl
      | some r3 =>
        simp only [Option.bind_some]
        cases R.expr r3 with
        | none => rfl
        | some q => cases of <;> rfl
def endX (R : Rc) (a : List Tr) (ts : List Tok) : Option (Tr × List Tok) := ow [101, 108, 115, 101] ts (fun r => bd (R.expr r) fun e r3 => (needF [[101, 110, 100]] r3).bind fun r4 => some (nd [99, 97, 115, 101] [] (a ++ [e]), r4)) ((needF [[101, 110, 100]] ts).bind fun r4 => some (nd [99, 97, 115, 101] [] (a ++ [nd [110, 117, 108, 108] [] []]), r4))
theorem cTl_x (R : Rc) (a : List Tr) (ts : List Tok) : cTl R (some (a, ts)) = endX R a ts := by
  unfold cTl endX ow
  simp only
  split
  · cases R.expr (tkR [[101, 108, 115, 101]] ts) with
    | none => rfl
    | some p =>
      obtain ⟨e, r⟩ := p
      simp only [bd]
      unfold caseEndF
      cases needF [[101, 110, 100]] r <;> rfl
  · unfold caseEndF
    cases needF [[101, 110, 100]] ts <;> rfl
theorem whN_x (R : Rc) (of : Option Tr) (f : Nat) (a : List Tr) (ts : List Tok) : cTl R (whN R of (f + 1) a ts) = if sdB 0 0 [119, 104, 101, 110] ts = true then WH R of ts (fun x r => cTl R (whN R of f (a ++ [x]) r)) else endX R a ts := by
  rw [whN]
  split
  · rw [← whenF_x]
    cases whenF R of ts with
    | none => rfl
    | some p => rfl
  · exact cTl_x R a ts
theorem caseWhF_x (R : Rc) (of : Option Tr) (ts : List Tok) : caseWhF R of ts = WH R of ts (fun x r => cTl R (whN R of (r.length + 1) [x] r)) := by
  rw [caseWhF_eq, ← whenF_x]
  cases whenF R of ts with
  | none => rfl
  | some p => rfl
theorem startW {R : Rc} {of : Option Tr} {st : Option (List Tok)} {a : List Tr} {o : Option (Tr × List Tok)} (h : st.bind (fun r => cTl R (whN R of (r.length + 1) a r)) = o) : st.bind (fun r => cTl R (whN R of (sl st) a r)) = o := by
  rw [← h]
  cases st <;> rfl
theorem nextW {R : Rc} {of : Option Tr} {st : Option (List Tok)} {f : Nat} {a : List Tr} {o : Option (Tr × List Tok)} (hf : sl st ≤ f) (h : st.bind (fun r => cTl R (whN R of f a r)) = o) : st.bind (fun ts => if sdB 0 0 [119, 104, 101, 110] ts = true then WH R of ts (fun x r => cTl R (whN R of (f - 1) (a ++ [x]) r)) else endX R a ts) = o := by
  rw [← h]
  cases st with
  | none => rfl
  | some ts =>
    obtain ⟨f, rfl⟩ : ∃ f', f = f' + 1 := ⟨f - 1, by simp only [sl] at hf; omega⟩
    exact (whN_x R of f a ts).symm
end Go.Proofs.YtaenpacfbheppaaGreatDoor
