/- The document's reader: all that calls itself; statements. -/
import Derived.Test.YtaenpacfbheppaaGreatDoorCS2
import Derived.Test.YtaenpacfbheppaaGreatDoorCS1
import Derived.Test.YtaenpacfbheppaaGreatDoorCS4
import Derived.Test.YtaenpacfbheppaaGreatDoorC13
import Derived.Deep.CutBlock
import Derived.Deep.DeepCutAuto
set_option maxHeartbeats 16000000
set_option maxRecDepth 100000
set_option linter.unusedVariables false
set_option linter.unusedSimpArgs false
namespace Go.Proofs.YtaenpacfbheppaaGreatDoor
open Go.RowKit
theorem cw_all {E : Env} (hg : GoodE E) : ∀ n, Cw E (recsD n) n
  | 0 => { len := recsD_Len 0, expr := fun _ h => absurd h (Nat.not_lt_zero _), body := fun _ h => absurd h (Nat.not_lt_zero _), neg := fun _ h => absurd h (Nat.not_lt_zero _), fac := fun _ h => absurd h (Nat.not_lt_zero _), tab := fun _ h => absurd h (Nat.not_lt_zero _) }
  | n + 1 =>
    have RC := cw_all hg n
    { len := recsD_Len (n + 1)
      expr := fun hC h => q_rexpr RC hg hC (by omega)
      body := fun hC h => q_rbody RC (fun hC h => q_rterm RC (fun hC h => q_rsimple RC hg hC h) (simD_Len RC.len) hg hC h) (trmD_Len RC.len) hg hC (by omega)
      neg := fun hC h => q_rnot RC hg hC (by omega)
      fac := fun hC h => q_rsign RC hg hC (by omega)
      tab := fun hC h => q_rtable RC hg hC (by omega) }
theorem q_rstatement {E : Env} {B : Nat} {w0 w : World} {st : Option (List Tok)} {H : List Bx} {L : List Tn} {R : Rc} {n : Nat} (RC : Cw E R n) (hw : whoF R = whoX R) (hg : GoodE E) (hC : Cx E B w0 w (.r st) H L) (hn : sl st < n) :
    Calls Tryz.prog 14 #[.pointer (some ⟨E.b, 0, none⟩)] w (RN E B w0 H L (st.bind (sttD R))) := by
  cases st with
  | none => exact q_rsta_f hg hC (fun ts e => by cases e) (fun ts e => by cases e) (fun t r e => by cases e)
  | some ts =>
    cases hop : sdB 0 3 [40] ts with
    | true =>
      have hsl : sdB 0 0 [115, 101, 108, 101, 99, 116] ts = false := by
        cases ts with
        | nil => rfl
        | cons t r =>
          have hk : t.k = 3 := by simp only [sdB, List.drop_zero, Bool.and_eq_true, beq_iff_eq] at hop; exact hop.1
          simp [sdB, hk]
      have e : (some ts).bind (sttD R) = (some ts).bind (qryD R) := by
        show sttD R ts = qryD R ts
        unfold sttD
        rw [hop]
        rfl
      rw [e]
      exact q_rsta_p RC hg hC hn (fun ts1 e => by cases e; exact hop) (fun ts1 e => by cases e; exact hsl)
    | false =>
      cases hsl : sdB 0 0 [115, 101, 108, 101, 99, 116] ts with
      | true =>
        have e : (some ts).bind (sttD R) = (some ts).bind (qryD R) := by
          show sttD R ts = qryD R ts
          unfold sttD
          rw [hop, hsl]
          rfl
        rw [e]
        exact q_rsta_s RC hg hC hn (fun ts1 e => by cases e; exact hop) (fun ts1 e => by cases e; exact hsl)
      | false =>
        have e0 : sttD R ts = match takF 0 ts with | none => none | some (t, r) => wrdD R t.s r := by
          unfold sttD
          rw [hop, hsl]
          rfl
        by_cases hf : ∃ t r, ts = t :: r ∧ t.k = 0
        · obtain ⟨t, r, rfl, hk⟩ := hf
          cases t with
          | mk k w1 tn ta =>
            obtain rfl : k = 0 := hk
            have e1 : (some (⟨0, w1, tn, ta⟩ :: r)).bind (sttD R) = wrdD R w1 r := e0
            rw [e1]
            clear e0 e1 hop
            exact q_rsta_w RC hw hg hC hn (fun e => by rw [e] at hsl; simp [sdB] at hsl)
        · have e : (some ts).bind (sttD R) = none := by
            show sttD R ts = none
            rw [e0]
            cases ts with
            | nil => rfl
            | cons t r =>
              have hk : (t.k == 0) = false := by simpa using fun h => hf ⟨t, r, rfl, h⟩
              unfold takF
              simp only [hk, Bool.false_eq_true, if_false]
          rw [e]
          exact q_rsta_f hg hC (fun ts1 e => by cases e; exact hop) (fun ts1 e => by cases e; exact hsl) (fun t r e hk => hf ⟨t, r, by cases e; rfl, hk⟩)
end Go.Proofs.YtaenpacfbheppaaGreatDoor
namespace Go.Proofs.YtaenpacfbheppaaGreatDoor
open Go.RowKit
theorem one_box {w : World} {b : Nat} {cs : Array Value} (p1 : w.heap[b]? = some (.cells cs 24 (0, 0))) (hcs : cs.size = 4) (c0 c1 c2 c3 : Value) :
    ((((w.setCell ⟨b, 0, none⟩ c0).setCell ⟨b, 1, none⟩ c1).setCell ⟨b, 2, none⟩ c2).setCell ⟨b, 3, none⟩ c3).heap[b]? = some (.cells #[c0, c1, c2, c3] 24 (0, 0)) ∧ Fr w ((((w.setCell ⟨b, 0, none⟩ c0).setCell ⟨b, 1, none⟩ c1).setCell ⟨b, 2, none⟩ c2).setCell ⟨b, 3, none⟩ c3) (fun i => i = b) := by
  have e : (((w.setCell ⟨b, 0, none⟩ c0).setCell ⟨b, 1, none⟩ c1).setCell ⟨b, 2, none⟩ c2).setCell ⟨b, 3, none⟩ c3 = w.setCells b 0 [c0, c1, c2, c3] := rfl
  rw [e]
  refine ⟨?_, setCells_fr b _ 0 w⟩
  obtain ⟨cs⟩ := cs
  have hcs : cs.length = 4 := hcs
  have h := setCells_block w b 24 [c0, c1, c2, c3] 0 w cs p1 (by simp; omega)
  have hp : put cs 0 [c0, c1, c2, c3] = [c0, c1, c2, c3] := by
    unfold put
    rw [List.take_zero, List.nil_append, List.drop_eq_nil_of_le (by simp; omega), List.append_nil]
  rw [hp] at h
  exact h
theorem ref_ret {wf : World} {b : Nat} {c0 c1 c2 c3 x : Value} {R : Ending → World → Prop} {a : Act} (r1 : wf.heap[b]? = some (.cells #[c0, c1, c2, c3] 24 (0, 0))) (h : R (.returned (.tuple #[.agg #[c0, c1, c2, c3], x])) wf) (h2 : a.tmps[2]?.getD undef = .pointer (some ⟨b, 0, none⟩)) (h3 : a.tmps[3]?.getD undef = x) (hd : a.defers = []) : bodyPost Tryz.prog Tryz.f5 R .ret a wf := by
  obtain ⟨q0, q1, q2, q3, _, _, _, _⟩ := cells4 r1
  refine bodyPost_ret (v := .tuple #[.agg #[c0, c1, c2, c3], x]) ?_ hd h
  simp [results, Tryz.results5, go_sem, q0, q1, q2, q3, h2, h3]
def TkE (b i : Nat) (bad : Bool) (v : Value) (w : World) : Prop := w.cell? ⟨b, 0, none⟩ = some v ∧ w.cell? ⟨b, 1, none⟩ = some (.int .i64 (i : Int)) ∧ w.cell? ⟨b, 2, none⟩ = some (.bool bad)
def finX (t : Tr) (r : List Tok) : Option Tr := if r = [] then some t else none
theorem whl_x {R : Rc} {l : List Tok} {st2 : Option (List Tok)} {t : Tr} (he : (some l).bind (sttD R) = st2.map (Prod.mk t)) : st2.bind (fun ts => og (sgF [59] ts) (fun _ r => finX t r) (finX t ts)) = whlD R l := by
  have he : sttD R l = st2.map (Prod.mk t) := he
  unfold whlD
  rw [he]
  cases st2 with
  | none => rfl
  | some ts =>
    show og (sgF [59] ts) (fun _ r => finX t r) (finX t ts) = _
    unfold og finX
    simp only [Option.map_some]
    cases sgF [59] ts <;> rfl
theorem end_rd {E : Env} {B : Nat} {w0 w : World} {H : List Bx} {L : List Tn} {X : Option (List Tok)} {t : Tr} {o : Option Tr} (hC : Cx E B w0 w (.r X) H L) (HO : X.bind (finX t) = o) : ∃ (i : Nat) (bad : Bool), TkE E.b i bad E.v w ∧ ((bad = true ∧ o = none) ∨ (bad = false ∧ ¬ (i : Int) = (E.l.length : Int) ∧ o = none) ∨ (bad = false ∧ i = E.l.length ∧ o = some t)) := by
  subst HO
  cases X with
  | none =>
    obtain ⟨i, ao, cap, hi, hv, c0, c1, c2, _⟩ := hC.rdN
    exact ⟨i, true, ⟨by rw [hv]; exact c0, c1, c2⟩, Or.inl ⟨rfl, rfl⟩⟩
  | some r =>
    obtain ⟨i, ao, cap, hi, hts, hv, c0, c1, c2, _⟩ := hC.rdS
    refine ⟨i, false, ⟨by rw [hv]; exact c0, c1, c2⟩, Or.inr ?_⟩
    show (_ ∧ _ ∧ finX t r = none) ∨ (_ ∧ _ ∧ finX t r = some t)
    have hl := congrArg List.length hts
    rw [List.length_drop] at hl
    unfold finX
    cases r with
    | nil => exact Or.inr ⟨rfl, by simp only [List.length_nil] at hl; omega, if_pos rfl⟩
    | cons x r => exact Or.inl ⟨rfl, by simp only [List.length_cons] at hl; omega, if_neg (by simp)⟩
theorem scF_good {s : List UInt8} {l : List Tok} (h : scF s = .ok l) : ∀ t ∈ l, Good t.k t.s t.n := by
  obtain ⟨_, htk, _⟩ := scF_ok.1 h
  exact tkN_good _ _ _ _ htk
theorem parse_ref (s : ByteArray) (w : World) : Calls Tryz.prog 5 #[.string s] w fun e w' => PrTo w s e w' := by
  obtain ⟨W0, hW0⟩ : ∃ W0, w.alloc (.cells zeroC.toArray 24) = W0 := ⟨_, rfl⟩
  have hs0 : W0.heap.size = w.heap.size + 1 := by rw [← hW0]; simp
  have hb0 : Below w.heap.size w W0 := by rw [← hW0]; exact (Below.refl _ _).alloc (Nat.le_refl _) _
  have h1 : W0.heap[w.heap.size]? = some (.cells zeroC.toArray 24 (0, 0)) := by rw [← hW0]; exact heap_alloc_new _ _
  have HS : Hid (Calls Tryz.prog 13 #[.string s] W0 fun e w' => ScTo W0 s e w') := scan_ref s W0
  have HB0 := hidk hb0
  clear hb0
  simp only [zeroC] at hW0
  go_enter Tryz.func5, Tryz.ntmps5
  go_wp2_with fail
  refine HS.out.mono ?_
  intro e w1 hsc
  clear HS
  rcases hsc with ⟨l, v, ho, rfl, row, hb⟩ | ⟨er, ho, rfl, hb⟩
  · obtain ⟨ao0, cap0, rfl, _⟩ := row.form
    have k1 : w1.heap[w.heap.size]? = some (.cells zeroC.toArray 24 (0, 0)) := (hb.block _ (by omega)).trans h1
    have hsz := hb.size
    obtain ⟨W2, hW2⟩ : ∃ W2, w1.alloc (.cells #[.slice ao0 l.length cap0, .int .i64 0, .bool false] 44) = W2 := ⟨_, rfl⟩
    have oth : ∀ k, k < w1.heap.size → W2.heap[k]? = w1.heap[k]? := fun k hk => by rw [← hW2, Below.heap_alloc _ _ _ hk]
    have hp2 : W2.heap[w1.heap.size]? = some (.cells #[.slice ao0 l.length cap0, .int .i64 0, .bool false] 44 (0, 0)) := by rw [← hW2]; exact heap_alloc_new _ _
    have q1 : W2.heap[w.heap.size]? = some (.cells zeroC.toArray 24 (0, 0)) := (oth _ (by omega)).trans k1
    have hsz2 : W2.heap.size = w1.heap.size + 1 := by rw [← hW2]; simp
    have hb2 : Below w.heap.size w W2 := by
      rw [← hW2]
      exact (HB0.out.trans (hb.mono (by omega))).alloc (by omega) _
    have hown : ∀ k, (Value.slice ao0 l.length cap0).ownBlock = some k → W0.heap.size ≤ k ∧ k < w1.heap.size := fun k hk => row.lo k hk
    have row2 : TRow 0 W2 (.slice ao0 l.length cap0) l := Row.of_block (own_base row (Nat.zero_le _)) (fun k hk => oth k (hown k hk).2)
    have hg : GoodE ⟨w1.heap.size, .slice ao0 l.length cap0, l⟩ := scF_good ho
    have hC : Cx ⟨w1.heap.size, .slice ao0 l.length cap0, l⟩ (w1.heap.size + 1) W2 W2 (.r (some l)) [] [] :=
      ⟨⟨fun e => by have := (hown _ e).2; exact absurd this (Nat.lt_irrefl _), scF_600 ho, scF_num ho⟩, ⟨0, false, Nat.zero_le _, rfl, hp2, row2⟩, Fr.refl _ _, ⟨by show w1.heap.size < W2.heap.size; omega, fun k hk => by have := (hown k hk).2; omega⟩, Nat.lt_succ_self _, by omega, (fun x hx => by cases hx), (fun x hx => by cases hx), .nil, (fun x hx => by cases hx)⟩
    have HWS : Hid (Calls Tryz.prog 14 #[.pointer (some ⟨w1.heap.size, 0, none⟩)] W2 (RN ⟨w1.heap.size, .slice ao0 l.length cap0, l⟩ (w1.heap.size + 1) W2 [] [] ((some l).bind (sttD (recsD (l.length + 2)))))) := q_rstatement (cw_all hg _) (who_eq (noCur_recsD _)) hg hC (by simp [sl])
    have HQ1 := hidk q1
    have HB2 := hidk hb2
    have HOK := hidk ho
    clear row2 row hown oth hp2 hb2 hb h1 k1 hW0 ho q1 hC
    go_upto_region 7 with (first
    | (go_at_call 14; refine HWS.out.mono ?_; clear HWS; rintro e w3 ⟨t, st2, ao, cap, rfl, hC, he⟩; have HO := hidk (whl_x he); clear he)
    | (guard_target = wpList _ _ _ (Oper.mk (some 7) (Op.alloc 24) _ _ _ _ :: _) _ _; refine hC.aN ?_; clear hC; intro W kN hC; (try simp only [pP]))
    | refine bL ?_
    | (refine bA ?_; clear hC; intro W k hC)
    | ((first | refine hC.bP ?_ | refine hC.bN ?_ | refine hC.b1 ?_); clear hC; intro W k hC; (try simp only [pP]))
    | (refine bS ?_; clear hC; intro W hC)
    | (go_at_call 15; have hD := hC; clear hC; (first | (refine gotW hg hD _ (by decide) ?_ ?_; (focus (intro ts W e hb hC hl; have hl := sl_some hl; clear hD; first | (cases e; done) | (cases e; replace HO := hidk (bindT hb HO.out); clear hb))); rotate_left; (focus (intro hb hC; clear hD; replace HO := hidk (bindF hb HO.out); clear hb)); rotate_left) | (refine gotS hg hD _ (by decide) ?_ ?_; (focus (intro ts r W e hb hC hl; have hl := sl_some hl; clear hD; first | (cases e; done) | (cases e; replace HO := hidk (bindG (F := sgF _) hb HO.out); clear hb))); rotate_left; (focus (intro hb hC; clear hD; replace HO := hidk (bindH (F := sgF _) hb HO.out); clear hb)); rotate_left))))
    all_goals
      obtain ⟨i, bad, hTK, hcs⟩ := end_rd hC HO.out
      have hTV := hC.tv _ (.head _)
      have hkN : W.heap[kN]? = some (.cells #[.string ⟨t.op.toArray⟩, .string ⟨t.s.toArray⟩, .int .i64 t.n, .slice ao t.L.length cap] 24 (0, 0)) := (hC.hl _ (.head _)).2
      have hkl : W2.heap.size ≤ kN := (hC.hl _ (.head _)).1
      have hkW : kN < W.heap.size := (Array.getElem?_eq_some_iff.1 hkN).1
      have hq : W.heap[w.heap.size]? = some (.cells zeroC.toArray 24 (0, 0)) := (hC.mv.block _ (by omega) (by show w.heap.size ≠ w1.heap.size; omega)).trans HQ1.out
      have hbW : Below w.heap.size w W := HB2.out.trans (hC.mv.below (by omega) (fun k hk => by have hk : k = w1.heap.size := hk; omega))
      have HTK : Hid (TkE w1.heap.size i bad (.slice ao0 l.length cap0) W.drew) := hTK
      have hqd : W.drew.heap[w.heap.size]? = some (.cells zeroC.toArray 24 (0, 0)) := hq
      have hkd : W.drew.heap[kN]? = some (.cells #[.string ⟨t.op.toArray⟩, .string ⟨t.s.toArray⟩, .int .i64 t.n, .slice ao t.L.length cap] 24 (0, 0)) := hkN
      have HBW : Hid (Below w.heap.size w W.drew) := hbW.drew
      have HTV : Hid (TV (fun k => w1.heap.size + 1 ≤ k) W.drew ao cap t) := hTV.keep (fun k hk _ => ⟨hk.1, rfl⟩)
      have hW : W.drew.heap.size = W.heap.size := rfl
      have hWw : w.heap.size < W.heap.size := by omega
      have HX : Hid (∀ x, whlD (recsD (l.length + 2)) l = x → whlF (recs (l.length + 2)) l = x) := fun x h => by rw [← whl_eq (l.length + 1) l]; exact h
      obtain ⟨v0, v1, v2, v3, d0, d1, d2, d3⟩ := cells4 hq
      obtain ⟨z0, z1, z2, z3, _, _, _, _⟩ := cells4 hkN
      clear hC HO hTK hq hkN hbW hTV HQ1 HB2 hg
      obtain ⟨y0, y1, y2, y3, g0, g1, g2, g3⟩ := cells4 hqd
      obtain ⟨x0, x1, x2, x3, _, _, _, _⟩ := cells4 hkd
      rcases hcs with ⟨rfl, ho⟩ | ⟨rfl, hne, ho⟩ | ⟨rfl, hi, ho⟩
      rotate_right
      · have hi2 : (i : Int) = (l.length : Int) := congrArg _ hi
        have hi3 : ((i : Int) != (l.length : Int)) = false := by rw [hi2]; simp
        go_wp2_with (first
        | (guard_target = Code.wp _ (Code.region 7 _ true) _ _ _; refine wp_region_held_drew (S := TkE w1.heap.size i _ (.slice ao0 l.length cap0)) (by kernel_rfl) (HTK.out) (fun hHeld => ?_); refine wpAnyH_take (i := 0) (v := _) rfl (by kernel_rfl) (by kernel_rfl) (by kernel_rfl) (fun _ _ _ h => h) (by first | exact Or.inl ⟨by rfl, by intro w hSw; go_simp; (try rfl)⟩ | exact Or.inr ⟨by rfl, rfl⟩) (by assumption) ?_; (try simp only [pQ]); refine wpAnyH_take (i := 1) (v := _) rfl (by kernel_rfl) (by kernel_rfl) (by kernel_rfl) (fun _ _ _ h => h) (by first | exact Or.inl ⟨by rfl, by intro w hSw; go_simp; (try rfl)⟩ | exact Or.inr ⟨by rfl, rfl⟩) (by assumption) ?_; (try simp only [pQ]); refine wpAnyH_take (i := 2) (v := _) rfl (by kernel_rfl) (by kernel_rfl) (by kernel_rfl) (fun _ _ _ h => h) (by first | exact Or.inl ⟨by rfl, by intro w hSw; go_simp; (try rfl)⟩ | exact Or.inr ⟨by rfl, rfl⟩) (by assumption) ?_; (try simp only [pQ]); refine wpAnyH_take (i := 3) (v := _) rfl (by kernel_rfl) (by kernel_rfl) (by kernel_rfl) (fun _ _ _ h => h) (by first | exact yi_loadS (by rfl) (by rfl) (by kernel_rfl) (by rfl) (by first | exact fun w h => h.1 | exact fun w h => h.2.1 | exact fun w h => h.2.2) | exact Or.inl ⟨by rfl, by rintro w ⟨q0, q1, q2⟩; go_simp; (try rfl)⟩ | exact Or.inr ⟨by rfl, rfl⟩) (by assumption) ?_; (try simp only [pQ]); refine wpAnyH_take (i := 4) (v := _) rfl (by kernel_rfl) (by kernel_rfl) (by kernel_rfl) (fun _ _ _ h => h) (by first | exact Or.inl ⟨by rfl, by intro w hSw; go_simp; (try rfl)⟩ | exact Or.inr ⟨by rfl, rfl⟩) (by assumption) ?_; (try simp only [pQ]); refine wpAnyH_take (i := 5) (v := _) rfl (by kernel_rfl) (by kernel_rfl) (by kernel_rfl) (fun _ _ _ h => h) (by first | exact Or.inl ⟨by rfl, by intro w hSw; go_simp; (try rfl)⟩ | exact Or.inr ⟨by rfl, rfl⟩) (by assumption) ?_; (try simp only [pQ]); refine wpAnyH_take (i := 6) (v := _) rfl (by kernel_rfl) (by kernel_rfl) (by kernel_rfl) (fun _ _ _ h => h) (by first | exact Or.inl ⟨by rfl, by intro w hSw; go_simp; (try rfl)⟩ | exact Or.inr ⟨by rfl, rfl⟩) (by assumption) ?_; (try simp only [pQ]); refine wpAnyH_take (i := 7) (v := _) rfl (by kernel_rfl) (by kernel_rfl) (by kernel_rfl) (fun _ _ _ h => h) (by first | exact Or.inl ⟨by rfl, by intro w hSw; go_simp; (try rfl)⟩ | exact Or.inr ⟨by rfl, rfl⟩) (by assumption) ?_; (try simp only [pQ]); refine wpAnyH_take (i := 8) (v := _) rfl (by kernel_rfl) (by kernel_rfl) (by kernel_rfl) (fun _ _ _ h => h) (by first | exact yi_loadS (by rfl) (by rfl) (by kernel_rfl) (by rfl) (by first | exact fun w h => h.1 | exact fun w h => h.2.1 | exact fun w h => h.2.2) | exact Or.inl ⟨by rfl, by rintro w ⟨q0, q1, q2⟩; go_simp; (try rfl)⟩ | exact Or.inr ⟨by rfl, rfl⟩) (by assumption) ?_; (try simp only [pQ]); refine wpAnyH_take (i := 9) (v := _) rfl (by kernel_rfl) (by kernel_rfl) (by kernel_rfl) (fun _ _ _ h => h) (by first | exact Or.inl ⟨by rfl, by intro w hSw; go_simp; (try rfl)⟩ | exact Or.inr ⟨by rfl, rfl⟩) (by assumption) ?_; (try simp only [pQ]); refine wpAnyH_take (i := 10) (v := _) rfl (by kernel_rfl) (by kernel_rfl) (by kernel_rfl) (fun _ _ _ h => h) (by first | exact Or.inl ⟨by rfl, by intro w hSw; go_simp; (try rfl)⟩ | exact Or.inr ⟨by rfl, rfl⟩) (by assumption) ?_; (try simp only [pQ]); refine wpAnyH_take (i := 11) (v := _) rfl (by kernel_rfl) (by kernel_rfl) (by kernel_rfl) (fun _ _ _ h => h) (by first | exact Or.inl ⟨by rfl, by intro w hSw; go_simp; (try rfl)⟩ | exact Or.inr ⟨by rfl, rfl⟩) (by assumption) ?_; (try simp only [pQ]); refine wpAnyH_take (i := 12) (v := _) rfl (by kernel_rfl) (by kernel_rfl) (by kernel_rfl) (fun _ _ _ h => h) (by first | exact yi_loadS (by rfl) (by rfl) (by kernel_rfl) (by rfl) (by first | exact fun w h => h.1 | exact fun w h => h.2.1 | exact fun w h => h.2.2) | exact Or.inl ⟨by rfl, by rintro w ⟨q0, q1, q2⟩; go_simp; (try rfl)⟩ | exact Or.inr ⟨by rfl, rfl⟩) (by assumption) ?_; (try simp only [pQ]); refine wpAnyH_take (i := 13) (v := _) rfl (by kernel_rfl) (by kernel_rfl) (by kernel_rfl) (fun _ _ _ h => h) (by first | exact Or.inl ⟨by rfl, by intro w hSw; go_simp; (try rfl)⟩ | exact Or.inr ⟨by rfl, rfl⟩) (by assumption) ?_; (try simp only [pQ]); refine wpAnyH_take (i := 14) (v := _) rfl (by kernel_rfl) (by kernel_rfl) (by kernel_rfl) (fun _ _ _ h => h) (by first | exact Or.inl ⟨by rfl, by intro w hSw; go_simp; (try rfl)⟩ | exact Or.inr ⟨by rfl, rfl⟩) (by assumption) ?_; (try simp only [pQ]); refine wpAnyH_take (i := 15) (v := _) rfl (by kernel_rfl) (by kernel_rfl) (by kernel_rfl) (fun _ _ _ h => h) (by first | exact Or.inl ⟨by rfl, by intro w hSw; go_simp; (try rfl)⟩ | exact Or.inr ⟨by rfl, rfl⟩) (by assumption) ?_; (try simp only [pQ]); refine dn ?_ _)
        | (go_at_call 9; refine (q_depthR _ (Nat.lt_succ_self _) HTV.out).mono ?_; rintro e w5 ⟨rfl, hb5⟩; have p1 := (hb5.block w.heap.size (by omega)).trans hqd; have p2 := (hb5.block kN (by omega)).trans hkd; have HB5 := hidk (HBW.out.trans (hb5.mono (by omega))); have HT5 := hidk (HTV.out.keepB hb5); have hs5 := hb5.size; have HP1 := hidk p1; clear hb5 HTV HBW y0 y1 y2 y3 g0 g1 g2 g3 x0 x1 x2 x3; obtain ⟨y0, y1, y2, y3, g0, g1, g2, g3⟩ := cells4 p1; obtain ⟨x0, x1, x2, x3, _, _, _, _⟩ := cells4 p2))
        · refine ref_ret (one_box HP1.out rfl _ _ _ _).1 (PrTo.no 5 (by unfold prF; rw [HOK.out]; simp only [HX.out _ ho]; rw [if_pos (by omega)]) rfl (HB5.out.trans ((one_box HP1.out rfl _ _ _ _).2.below (by omega) (fun k hk => by omega)))) (by rfl) (by rfl) (by rfl)
        · refine ref_ret (one_box HP1.out rfl _ _ _ _).1 (PrTo.ok t ao cap (by unfold prF; rw [HOK.out]; simp only [HX.out _ ho]; rw [if_neg (by omega)]) rfl (HT5.out.keep (fun k hk hkl => ⟨by omega, (one_box HP1.out rfl _ _ _ _).2.block k hkl (by omega)⟩)) (HB5.out.trans ((one_box HP1.out rfl _ _ _ _).2.below (by omega) (fun k hk => by omega)))) (by rfl) (by rfl) (by rfl)
      all_goals
        (try have hne2 : ((i : Int) != (l.length : Int)) = true := by simpa using hne)
        go_wp2_with (guard_target = Code.wp _ (Code.region 7 _ true) _ _ _; refine wp_region_held_drew (S := TkE w1.heap.size i _ (.slice ao0 l.length cap0)) (by kernel_rfl) (HTK.out) (fun hHeld => ?_); refine wpAnyH_take (i := 0) (v := _) rfl (by kernel_rfl) (by kernel_rfl) (by kernel_rfl) (fun _ _ _ h => h) (by first | exact Or.inl ⟨by rfl, by intro w hSw; go_simp; (try rfl)⟩ | exact Or.inr ⟨by rfl, rfl⟩) (by assumption) ?_; (try simp only [pQ]); refine wpAnyH_take (i := 1) (v := _) rfl (by kernel_rfl) (by kernel_rfl) (by kernel_rfl) (fun _ _ _ h => h) (by first | exact Or.inl ⟨by rfl, by intro w hSw; go_simp; (try rfl)⟩ | exact Or.inr ⟨by rfl, rfl⟩) (by assumption) ?_; (try simp only [pQ]); refine wpAnyH_take (i := 2) (v := _) rfl (by kernel_rfl) (by kernel_rfl) (by kernel_rfl) (fun _ _ _ h => h) (by first | exact Or.inl ⟨by rfl, by intro w hSw; go_simp; (try rfl)⟩ | exact Or.inr ⟨by rfl, rfl⟩) (by assumption) ?_; (try simp only [pQ]); refine wpAnyH_take (i := 3) (v := _) rfl (by kernel_rfl) (by kernel_rfl) (by kernel_rfl) (fun _ _ _ h => h) (by first | exact yi_loadS (by rfl) (by rfl) (by kernel_rfl) (by rfl) (by first | exact fun w h => h.1 | exact fun w h => h.2.1 | exact fun w h => h.2.2) | exact Or.inl ⟨by rfl, by rintro w ⟨q0, q1, q2⟩; go_simp; (try rfl)⟩ | exact Or.inr ⟨by rfl, rfl⟩) (by assumption) ?_; (try simp only [pQ]); refine wpAnyH_take (i := 4) (v := _) rfl (by kernel_rfl) (by kernel_rfl) (by kernel_rfl) (fun _ _ _ h => h) (by first | exact Or.inl ⟨by rfl, by intro w hSw; go_simp; (try rfl)⟩ | exact Or.inr ⟨by rfl, rfl⟩) (by assumption) ?_; (try simp only [pQ]); refine wpAnyH_take (i := 5) (v := _) rfl (by kernel_rfl) (by kernel_rfl) (by kernel_rfl) (fun _ _ _ h => h) (by first | exact Or.inl ⟨by rfl, by intro w hSw; go_simp; (try rfl)⟩ | exact Or.inr ⟨by rfl, rfl⟩) (by assumption) ?_; (try simp only [pQ]); refine wpAnyH_take (i := 6) (v := _) rfl (by kernel_rfl) (by kernel_rfl) (by kernel_rfl) (fun _ _ _ h => h) (by first | exact Or.inl ⟨by rfl, by intro w hSw; go_simp; (try rfl)⟩ | exact Or.inr ⟨by rfl, rfl⟩) (by assumption) ?_; (try simp only [pQ]); refine wpAnyH_take (i := 7) (v := _) rfl (by kernel_rfl) (by kernel_rfl) (by kernel_rfl) (fun _ _ _ h => h) (by first | exact Or.inl ⟨by rfl, by intro w hSw; go_simp; (try rfl)⟩ | exact Or.inr ⟨by rfl, rfl⟩) (by assumption) ?_; (try simp only [pQ]); refine wpAnyH_take (i := 8) (v := _) rfl (by kernel_rfl) (by kernel_rfl) (by kernel_rfl) (fun _ _ _ h => h) (by first | exact yi_loadS (by rfl) (by rfl) (by kernel_rfl) (by rfl) (by first | exact fun w h => h.1 | exact fun w h => h.2.1 | exact fun w h => h.2.2) | exact Or.inl ⟨by rfl, by rintro w ⟨q0, q1, q2⟩; go_simp; (try rfl)⟩ | exact Or.inr ⟨by rfl, rfl⟩) (by assumption) ?_; (try simp only [pQ]); refine wpAnyH_take (i := 9) (v := _) rfl (by kernel_rfl) (by kernel_rfl) (by kernel_rfl) (fun _ _ _ h => h) (by first | exact Or.inl ⟨by rfl, by intro w hSw; go_simp; (try rfl)⟩ | exact Or.inr ⟨by rfl, rfl⟩) (by assumption) ?_; (try simp only [pQ]); refine wpAnyH_take (i := 10) (v := _) rfl (by kernel_rfl) (by kernel_rfl) (by kernel_rfl) (fun _ _ _ h => h) (by first | exact Or.inl ⟨by rfl, by intro w hSw; go_simp; (try rfl)⟩ | exact Or.inr ⟨by rfl, rfl⟩) (by assumption) ?_; (try simp only [pQ]); refine wpAnyH_take (i := 11) (v := _) rfl (by kernel_rfl) (by kernel_rfl) (by kernel_rfl) (fun _ _ _ h => h) (by first | exact Or.inl ⟨by rfl, by intro w hSw; go_simp; (try rfl)⟩ | exact Or.inr ⟨by rfl, rfl⟩) (by assumption) ?_; (try simp only [pQ]); refine wpAnyH_take (i := 12) (v := _) rfl (by kernel_rfl) (by kernel_rfl) (by kernel_rfl) (fun _ _ _ h => h) (by first | exact yi_loadS (by rfl) (by rfl) (by kernel_rfl) (by rfl) (by first | exact fun w h => h.1 | exact fun w h => h.2.1 | exact fun w h => h.2.2) | exact Or.inl ⟨by rfl, by rintro w ⟨q0, q1, q2⟩; go_simp; (try rfl)⟩ | exact Or.inr ⟨by rfl, rfl⟩) (by assumption) ?_; (try simp only [pQ]); refine wpAnyH_take (i := 13) (v := _) rfl (by kernel_rfl) (by kernel_rfl) (by kernel_rfl) (fun _ _ _ h => h) (by first | exact Or.inl ⟨by rfl, by intro w hSw; go_simp; (try rfl)⟩ | exact Or.inr ⟨by rfl, rfl⟩) (by assumption) ?_; (try simp only [pQ]); refine wpAnyH_take (i := 14) (v := _) rfl (by kernel_rfl) (by kernel_rfl) (by kernel_rfl) (fun _ _ _ h => h) (by first | exact Or.inl ⟨by rfl, by intro w hSw; go_simp; (try rfl)⟩ | exact Or.inr ⟨by rfl, rfl⟩) (by assumption) ?_; (try simp only [pQ]); refine wpAnyH_take (i := 15) (v := _) rfl (by kernel_rfl) (by kernel_rfl) (by kernel_rfl) (fun _ _ _ h => h) (by first | exact Or.inl ⟨by rfl, by intro w hSw; go_simp; (try rfl)⟩ | exact Or.inr ⟨by rfl, rfl⟩) (by assumption) ?_; (try simp only [pQ]); refine dn ?_ _)
        refine ref_ret (one_box hqd rfl _ _ _ _).1 (PrTo.no 1 (by unfold prF; rw [HOK.out]; simp only [HX.out _ ho]) rfl (HBW.out.trans ((one_box hqd rfl _ _ _ _).2.below (by omega) (fun k hk => by omega)))) (by rfl) (by rfl) (by rfl)
  · obtain ⟨hp, hpb⟩ := prF_er ho
    have k1 : w1.heap[w.heap.size]? = some (.cells zeroC.toArray 24 (0, 0)) := (hb.block _ (by omega)).trans h1
    obtain ⟨y0, y1, y2, y3, g0, g1, g2, g3⟩ := cells4 k1
    have HB := hidk (HB0.out.trans (hb.mono (by omega)))
    have hsz := hb.size
    have hst := stB_of er
    have HP := hidk hp
    have HPB := hidk hpb
    clear hp hpb ho hb h1 hW0 HB0
    generalize stB er = sb at *
    rcases hst with rfl | rfl | rfl | rfl
    all_goals
      go_wp2_with fail
      refine ref_ret (one_box k1 rfl _ _ _ _).1 (PrTo.no er HP.out (by rw [HPB.out]) (HB.out.trans ((one_box k1 rfl _ _ _ _).2.below (by omega) (fun k hk => by omega)))) (by rfl) (by rfl) (by rfl)
end Go.Proofs.YtaenpacfbheppaaGreatDoor
namespace Go.Proofs.YtaenpacfbheppaaGreatDoor
open Go.RowKit Go.Sort

theorem TV.any {P : Nat → Prop} {w : World} {ao : Option Addr} {cap : Nat} {t : Tr} (h : TV P w ao cap t) : TV (fun _ => True) w ao cap t := h.keep fun _ _ _ => ⟨trivial, rfl⟩
theorem prTo_two {wa wb w1 w2 : World} {s : ByteArray} {e1 e2 : Ending} (h1 : PrTo wa s e1 w1) (h2 : PrTo wb s e2 w2) : ∃ (t : Tr) (a1 : Option Addr) (c1 : Nat) (a2 : Option Addr) (c2 : Nat) (st : ByteArray), e1 = .returned (.tuple #[nv t.op t.s t.n a1 t.L.length c1, .string st]) ∧ e2 = .returned (.tuple #[nv t.op t.s t.n a2 t.L.length c2, .string st]) ∧ TV (fun _ => True) w1 a1 c1 t ∧ TV (fun _ => True) w2 a2 c2 t ∧ Below wa.heap.size wa w1 ∧ Below wb.heap.size wb w2 := by
  rcases h1 with ⟨t, ao, cap, ho, he, tv, hb⟩ | ⟨er, ho, he, hb⟩ <;> rcases h2 with ⟨t2, ao2, cap2, ho2, he2, tv2, hb2⟩ | ⟨er2, ho2, he2, hb2⟩
  · rw [ho] at ho2
    cases ho2
    exact ⟨t, ao, cap, ao2, cap2, _, he, he2, tv.any, tv2.any, hb, hb2⟩
  · rw [ho] at ho2; cases ho2
  · rw [ho] at ho2; cases ho2
  · rw [ho] at ho2
    cases ho2
    exact ⟨.mk [] [] 0 [], none, 0, none, 0, _, he, he2, .leaf _ _ _, .leaf _ _ _, hb, hb2⟩
theorem reads_walk {a : Addr} (s : ByteArray) (w : World) (hL : LibW a w) : Calls Tryz.prog 3 #[.string s] w fun e w' => e = .returned (.bool true) ∧ Below w.heap.size w w' := by
  have HL := hidk hL
  clear hL
  go_enter Tryz.func3, Tryz.ntmps3
  go_wp2_with fail
  refine (parse_any s w HL.out).mono ?_
  intro e w1 h1
  obtain ⟨op0, s0, n0, a0, l0, c0, st0, rfl⟩ : ∃ op0 s0 n0 a0 l0 c0 st0, e = .returned (.tuple #[.agg #[.string op0, .string s0, .int .i64 n0, .slice a0 l0 c0], .string st0]) := by
    rcases id h1 with ⟨t, ao, cap, ho, he, tv, hb⟩ | ⟨er, ho, he, hb⟩
    · exact ⟨_, _, _, _, _, _, _, he⟩
    · exact ⟨_, _, _, _, _, _, _, he⟩
  have H1 := hidk h1
  clear h1
  obtain ⟨w1a, hw1a⟩ : ∃ w1a, w1.alloc (.cells #[.string op0, .string s0, .int .i64 n0, .slice a0 l0 c0] 24) = w1a := ⟨_, rfl⟩
  go_wp2_with fail
  refine (parse_ref s w1a).mono ?_
  intro e w2 h2
  obtain ⟨t, a1, c1, a2, c2, st, e1, rfl, r1, r2, hb1, hb2⟩ := prTo_two H1.out h2
  simp only [nv, Ending.returned.injEq, Value.tuple.injEq, Value.agg.injEq, Array.mk.injEq, List.cons.injEq, Value.string.injEq, Value.int.injEq, Value.slice.injEq, and_true, true_and] at e1
  obtain ⟨⟨rfl, rfl, rfl, rfl, rfl, rfl⟩, rfl⟩ := e1
  clear H1 h2
  obtain ⟨w2a, hw2a⟩ : ∃ w2a, w2.alloc (.cells #[.string ⟨t.op.toArray⟩, .string ⟨t.s.toArray⟩, .int .i64 t.n, .slice a2 t.L.length c2] 24) = w2a := ⟨_, rfl⟩
  have hs1a : w1a.heap.size = w1.heap.size + 1 := by rw [← hw1a]; simp
  have hs2a : w2a.heap.size = w2.heap.size + 1 := by rw [← hw2a]; simp
  have hs1 := hb1.size
  have hs2 := hb2.size
  have b1 : Below w1.heap.size w1 w1a := by rw [← hw1a]; exact (Below.refl _ _).alloc (Nat.le_refl _) _
  have b2 : Below w2.heap.size w2 w2a := by rw [← hw2a]; exact (Below.refl _ _).alloc (Nat.le_refl _) _
  have b12 : Below w1a.heap.size w1a w2a := hb2.trans (b2.mono hs2)
  have B0 : Below w.heap.size w w2a := hb1.trans ((b1.mono hs1).trans (b12.mono (by omega)))
  have X1 : Hid (∀ W, Below w1a.heap.size w1a W → _) := fun W hW => box4 w1 (.string ⟨t.op.toArray⟩) (.string ⟨t.s.toArray⟩) (.int .i64 t.n) (.slice a0 t.L.length c0) 24 W (by rw [hw1a]; exact hW)
  have X2 : Hid (∀ W, Below w2a.heap.size w2a W → _) := fun W hW => box4 w2 (.string ⟨t.op.toArray⟩) (.string ⟨t.s.toArray⟩) (.int .i64 t.n) (.slice a2 t.L.length c2) 24 W (by rw [hw2a]; exact hW)
  have T1 : TV (fun _ => True) w2a a0 c0 t := (r1.keepB b1).keepB (b12.mono (by omega))
  have T2 : TV (fun _ => True) w2a a2 c2 t := r2.keepB b2
  have HSM : Hid (Calls Tryz.prog 6 #[nv t.op t.s t.n a0 t.L.length c0, nv t.op t.s t.n a2 t.L.length c2] w2a fun e w' => e = .returned (.bool true) ∧ Below w2a.heap.size w2a w') := q_same _ (Nat.lt_succ_self _) T1 T2
  have HT1 := hidk T1
  have HT2 := hidk T2
  have HB0 := hidk B0
  have HB12 := hidk b12
  obtain ⟨z0, z1, z2, z3⟩ := X1.out w2a b12
  obtain ⟨v0, v1, v2, v3⟩ := X2.out w2a (Below.refl _ _)
  clear r1 r2 hb1 hb2 b1 b2 b12 B0 T1 T2
  go_wp2_with (go_at_call 6; refine HSM.out.mono ?_; clear HSM; rintro e w3 ⟨rfl, hb3⟩; have HB3 := hidk hb3; clear hb3 z0 z1 z2 z3 v0 v1 v2 v3)
  obtain ⟨z0, z1, z2, z3⟩ := X1.out w3 (HB12.out.trans (HB3.out.mono HB12.out.size))
  obtain ⟨v0, v1, v2, v3⟩ := X2.out w3 HB3.out
  have HB4 := hidk (HB0.out.trans (HB3.out.mono HB0.out.size))
  have hA : ∀ (d : Nat) (os : Array Obj), Calls Tryz.prog 7 #[] (grow (redrawn w3 d) os) fun e w' => e = .returned (.bool true) ∧ Below (grow (redrawn w3 d) os).heap.size (grow (redrawn w3 d) os) w' := fun d os => alive_any _ (HL.out.keep (HB4.out.trans ((below_regrown w3 d os).mono HB4.out.size)))
  have hD1 : ∀ (d : Nat) (os : Array Obj), Calls Tryz.prog 8 #[nv t.op t.s t.n a0 t.L.length c0] (grow (redrawn w3 d) os) fun e w' => e = .returned (.int .i64 t.wd) ∧ Below (grow (redrawn w3 d) os).heap.size (grow (redrawn w3 d) os) w' := fun d os => q_depth ((HT1.out.keepB HB3.out).keepB (below_regrown w3 d os))
  have hD2 : ∀ (d : Nat) (os : Array Obj), Calls Tryz.prog 9 #[nv t.op t.s t.n a2 t.L.length c2] (grow (redrawn w3 d) os) fun e w' => e = .returned (.int .i64 t.wd) ∧ Below (grow (redrawn w3 d) os).heap.size (grow (redrawn w3 d) os) w' := fun d os => q_depthR _ (Nat.lt_succ_self _) ((HT2.out.keepB HB3.out).keepB (below_regrown w3 d os))
  replace z0 := fun (d : Nat) (os : Array Obj) => cell_regrown z0 d os
  replace z1 := fun (d : Nat) (os : Array Obj) => cell_regrown z1 d os
  replace z2 := fun (d : Nat) (os : Array Obj) => cell_regrown z2 d os
  replace z3 := fun (d : Nat) (os : Array Obj) => cell_regrown z3 d os
  replace v0 := fun (d : Nat) (os : Array Obj) => cell_regrown v0 d os
  replace v1 := fun (d : Nat) (os : Array Obj) => cell_regrown v1 d os
  replace v2 := fun (d : Nat) (os : Array Obj) => cell_regrown v2 d os
  replace v3 := fun (d : Nat) (os : Array Obj) => cell_regrown v3 d os
  refine wp_region_quiet_below (by kernel_rfl) (by kernel_rfl) ?_
  repeat (go_big_quiet_step (first | with_reducible exact Calls.regrown_of (hA _ _) | with_reducible exact Calls.regrown_of (hD1 _ _) | with_reducible exact Calls.regrown_of (hD2 _ _)))
  refine wpQuiet_nil ?_
  intro _ hw'
  obtain ⟨⟨dq, osq⟩, hw''⟩ := hw'
  subst hw''
  have HB5 := hidk (HB4.out.trans ((below_regrown w3 dq osq).mono HB4.out.size))
  clear hA hD1 hD2 z0 z1 z2 z3 v0 v1 v2 v3
  go_wp2_with fail
  go_ret
  exact ⟨rfl, HB5.out⟩
theorem reads_law (s : ByteArray) (a : Addr) (w : World) (hL : LibW a w) : Calls Tryz.prog 3 #[.string s] w fun e w' => e = .returned (.bool true) ∧ Below w.heap.size w w' := reads_walk s w hL
end Go.Proofs.YtaenpacfbheppaaGreatDoor
