/- The document's reader as it stands: its cells, its moves; is a word, or a sign, there? -/
import Derived.Test.YtaenpacfbheppaaGreatDoorM14D
import Derived.Test.YtaenpacfbheppaaGreatDoorCQ
import Derived.Test.YtaenpacfbheppaaGreatDoorC13
set_option maxHeartbeats 16000000
set_option maxRecDepth 100000
set_option linter.unusedVariables false
set_option linter.unusedSimpArgs false
namespace Go.Proofs.YtaenpacfbheppaaGreatDoor
open Go.RowKit

def GoodE (E : Env) : Prop := ∀ t ∈ E.l, Good t.k t.s t.n
def wl (s : List UInt8) : Bool := match s with
  | [] => false
  | c :: _ => isLt c
theorem good_wl {k : Int} {s : List UInt8} {v : Int} (h : Good k s v) : (k = 0 → wl s = true) ∧ (k = 3 → wl s = false) := by
  obtain ⟨r, n, h⟩ := h
  cases r with
  | nil => simp [stp, blN] at h
  | cons c q =>
    unfold stp at h
    split at h
    · cases h
    · simp only at h
      split at h
      · rename_i hl
        unfold wdS at h
        split at h
        · cases h
        · injection h with e1 e2 e3 e4
          subst e1 e2
          refine ⟨fun _ => ?_, (fun h => by cases h)⟩
          rw [List.takeWhile_cons, if_pos (by simp [isWd, hl])]
          exact lowc_lt hl
      · split at h
        · unfold nmS at h
          split at h
          · cases h
          · split at h
            · cases h
            · injection h with e1 e2 e3 e4
              subst e1
              exact ⟨(fun h => by cases h), (fun h => by cases h)⟩
        · split at h
          · unfold txS at h
            split at h
            · cases h
            · split at h
              · split at h
                · cases h
                · injection h with e1 e2 e3 e4
                  subst e1
                  exact ⟨(fun h => by cases h), (fun h => by cases h)⟩
              · cases h
          · unfold sgS at h
            split at h
            · cases h
            · rename_i g hg
              injection h with e1 e2 e3 e4
              subst e1 e2
              refine ⟨(fun h => by cases h), fun _ => ?_⟩
              have hm := List.mem_of_find?_eq_some hg
              have : signs.all (fun g => !wl g) = true := by decide
              simpa using List.all_eq_true.1 this g hm
def sl : Option (List Tok) → Nat
  | none => 0
  | some ts => ts.length + 1
structure RC (E : Env) (w : World) (i : Nat) (bad : Bool) (ao : Option Addr) (cap : Nat) : Prop where
  v : E.v = .slice ao E.l.length cap
  c0 : w.cell? ⟨E.b, 0, none⟩ = some (.slice ao E.l.length cap)
  c1 : w.cell? ⟨E.b, 1, none⟩ = some (.int .i64 i)
  c2 : w.cell? ⟨E.b, 2, none⟩ = some (.bool bad)
  f1 : w.frozen? ⟨E.b, 1, none⟩ = false
  f2 : w.frozen? ⟨E.b, 2, none⟩ = false
  cap : E.l.length ≤ cap
section
variable {E : Env} {B : Nat} {w0 w : World} {H : List Bx} {L : List Tn} {st : Option (List Tok)}
theorem Cx.rd (h : Cx E B w0 w (.r st) H L) : ∃ i bad ao cap, i ≤ E.l.length ∧ (st = if bad then none else some (E.l.drop i)) ∧ RC E w i bad ao cap := by
  obtain ⟨i, bad, hi, hst, hh, hr⟩ := h.st
  obtain ⟨ao, cap, hv, hc, _⟩ := hr.form
  refine ⟨i, bad, ao, cap, hi, hst, hv, ?_, ?_, ?_, frozen_row hh 1, frozen_row hh 2, hc⟩
  · rw [cell_of_row w _ 0 _ _ _ hh, ← hv]; rfl
  · rw [cell_of_row w _ 1 _ _ _ hh]; rfl
  · rw [cell_of_row w _ 2 _ _ _ hh]; rfl
theorem Cx.rdN (h : Cx E B w0 w (.r none) H L) : ∃ i ao cap, i ≤ E.l.length ∧ RC E w i true ao cap := by
  obtain ⟨i, bad, ao, cap, hi, hst, hr⟩ := h.rd
  cases bad with
  | true => exact ⟨i, ao, cap, hi, hr⟩
  | false => cases hst
theorem Cx.rdS {ts : List Tok} (h : Cx E B w0 w (.r (some ts)) H L) : ∃ i ao cap, i ≤ E.l.length ∧ E.l.drop i = ts ∧ RC E w i false ao cap := by
  obtain ⟨i, bad, ao, cap, hi, hst, hr⟩ := h.rd
  cases bad with
  | true => cases hst
  | false => exact ⟨i, ao, cap, hi, (Option.some.inj hst).symm, hr⟩
theorem Cx.rsl (h : Cx E B w0 w (.r st) H L) : sl st ≤ 601 := by
  obtain ⟨i, bad, ao, cap, hi, hst, hr⟩ := h.rd
  have := h.ok.len
  cases bad with
  | true => rw [hst]; simp [sl]
  | false => rw [hst]; simp [sl]; omega
theorem Cx.rbad (h : Cx E B w0 w (.r st) H L) : w.cell? ⟨E.b, 2, none⟩ = some (.bool st.isNone) := by
  obtain ⟨i, bad, ao, cap, hi, hst, hr⟩ := h.rd
  rw [hr.c2, hst]
  cases bad <;> rfl
theorem Cx.rset (h : Cx E B w0 w (.r st) H L) {j : Nat} (hj : j ≤ E.l.length) (b : Bool) {w' : World} (hw : w'.heap[E.b]? = some (.cells #[E.v, .int .i64 j, .bool b] 44 (0, 0))) (hf : Fr w w' (fun i => i = E.b)) : Cx E B w0 w' (.r (if b then none else some (E.l.drop j))) H L := by
  have hlt := h.st.lt
  have other : ∀ k, k < w.heap.size → k ≠ E.b → w'.heap[k]? = w.heap[k]? := fun k hk hn => hf.block k hk hn
  have hne : ∀ x ∈ H, x.1 ≠ E.b := fun x hx => by have := (h.hl x hx).1; have := h.lo.1; omega
  have hxl : ∀ x ∈ H, x.1 < w.heap.size := fun x hx => (Array.getElem?_eq_some_iff.1 (h.hl x hx).2).1
  refine ⟨h.ok, ?_, h.mv.trans hf (fun i hi => Or.inl hi), h.lo, h.bl, h.hB, fun x hx => ⟨(h.hl x hx).1, (other _ (hxl x hx) (hne x hx)).trans (h.hl x hx).2⟩, h.hn, h.nd, fun x hx => (h.tv x hx).keep fun k hk hkl => ⟨hk, other k hkl (by have := h.bl; omega)⟩⟩
  obtain ⟨i, bad, hi, hst, hh, hr⟩ := h.st
  exact ⟨j, b, hj, rfl, hw, hr.of_block (fun k hk => other k (hr.lo k hk).2 (fun e => h.ok.own (e ▸ hk)))⟩
theorem Cx.rgo {i : Nat} (h : Cx E B w0 w (.r (some (E.l.drop i))) H L) (hi : i ≤ E.l.length) (hc : w.cell? ⟨E.b, 1, none⟩ = some (.int .i64 i)) {j : Nat} (hj : j ≤ E.l.length) : Cx E B w0 (w.setCell ⟨E.b, 1, none⟩ (.int .i64 j)) (.r (some (E.l.drop j))) H L := by
  obtain ⟨i', bad, hi', hst, hh, hr⟩ := h.st
  have hb : bad = false := by cases bad with | true => cases hst | false => rfl
  subst hb
  exact h.rset hj false (by rw [heap_setCell_same w E.b 1 _ _ _ hh]; rfl) (fr_set w E.b 1 _)
theorem Cx.rfail (h : Cx E B w0 w (.r st) H L) : Cx E B w0 (w.setCell ⟨E.b, 2, none⟩ (.bool true)) (.r none) H L := by
  obtain ⟨i', bad, hi', hst, hh, hr⟩ := h.st
  exact h.rset hi' true (by rw [heap_setCell_same w E.b 2 _ _ _ hh]; rfl) (fr_set w E.b 2 _)
theorem Cx.rsame (h : Cx E B w0 w (.r st) H L) : Cx E B w0 (w.setCell ⟨E.b, 2, none⟩ (.bool st.isNone)) (.r st) H L := by
  obtain ⟨i', bad, hi', hst, hh, hr⟩ := h.st
  have hb : st.isNone = bad := by rw [hst]; cases bad <;> rfl
  have := h.rset hi' bad (w' := w.setCell ⟨E.b, 2, none⟩ (.bool bad)) (by rw [heap_setCell_same w E.b 2 _ _ _ hh]; rfl) (fr_set w E.b 2 _)
  rw [hb]
  rw [hst]
  exact this
end
def isT (k : Nat) (s : List UInt8) (ts : List Tok) : Bool := match ts.drop k with
  | [] => false
  | t :: _ => (t.k == 0 || t.k == 3) && t.s == s
def isO (k : Nat) (s : List UInt8) : Option (List Tok) → Bool
  | none => false
  | some ts => isT k s ts
theorem isO_w {E : Env} (hg : GoodE E) {i k : Nat} {s : List UInt8} (hs : wl s = true) : isO k s (some (E.l.drop i)) = sdB k 0 s (E.l.drop i) := by
  show isT k s (E.l.drop i) = _
  unfold isT sdB
  rw [List.drop_drop]
  cases e : E.l.drop (i + k) with
  | nil => rfl
  | cons t r =>
    have hm : t ∈ E.l := List.mem_of_mem_drop (i := i + k) (by rw [e]; exact List.mem_cons_self)
    have hx := (good_wl (hg t hm)).2
    by_cases h3 : t.k = 3
    · have hne : (t.s == s) = false := by
        rw [beq_eq_false_iff_ne]; rintro rfl; rw [hx h3] at hs; cases hs
      simp [hne]
    · have : (t.k == 3) = false := by simpa using h3
      simp only [this, Bool.or_false]
theorem isO_s {E : Env} (hg : GoodE E) {i k : Nat} {s : List UInt8} (hs : wl s = false) : isO k s (some (E.l.drop i)) = sdB k 3 s (E.l.drop i) := by
  show isT k s (E.l.drop i) = _
  unfold isT sdB
  rw [List.drop_drop]
  cases e : E.l.drop (i + k) with
  | nil => rfl
  | cons t r =>
    have hm : t ∈ E.l := List.mem_of_mem_drop (i := i + k) (by rw [e]; exact List.mem_cons_self)
    have hx := (good_wl (hg t hm)).1
    by_cases h3 : t.k = 0
    · have hne : (t.s == s) = false := by
        rw [beq_eq_false_iff_ne]; rintro rfl; rw [hx h3] at hs; cases hs
      simp [hne]
    · have : (t.k == 0) = false := by simpa using h3
      simp only [this, Bool.false_or]
theorem q_is0 {E : Env} {B : Nat} {w0 w : World} {st : Option (List Tok)} {H : List Bx} {L : List Tn} (hC : Cx E B w0 w (.r st) H L) (k : Nat) (hk : k ≤ 1000) (s : List UInt8) :
    Calls Tryz.prog 29 #[.pointer (some ⟨E.b, 0, none⟩), .int .i64 k, .string ⟨s.toArray⟩] w fun e w' => e = .returned (.bool (isO k s st)) ∧ w' = w := by
  cases st with
  | none =>
    obtain ⟨i, ao, cap, hi, hv, c0, c1, c2, f1, f2, hcap⟩ := hC.rdN
    have h6 := hC.ok.len
    show Calls _ _ _ _ fun e w' => e = .returned (.bool false) ∧ w' = w
    clear hC hv
    go_enter Tryz.func29, Tryz.ntmps29
    go_wp2_with fail
    go_ret
    exact ⟨rfl, rfl⟩
  | some ts =>
    obtain ⟨i, ao, cap, hi, hts, hv, c0, c1, c2, f1, f2, hcap⟩ := hC.rdS
    have h6 := hC.ok.len
    by_cases hlt : i + k < E.l.length
    · obtain ⟨g, cap', hv', hcap', t0, t1, t2, t3⟩ := hC.tok (ts := ts) hlt
      have hd := drop_at hts hlt
      rw [hv] at hv'
      cases hv'
      have hB : isO k s (some ts) = ((E.l[i + k].k == 0 || E.l[i + k].k == 3) && E.l[i + k].s == s) := by show isT k s ts = _; unfold isT; rw [hd]
      rw [hB]
      generalize E.l[i + k] = t at *
      have tlt : (i : Int) + (k : Int) < (E.l.length : Int) := by omega
      have tlt0 : (0 : Int) ≤ (i : Int) + (k : Int) := by omega
      have hw : ((i + k : Nat) : Int) = (i : Int) + (k : Int) := by omega
      have hik : (i : Int) + (k : Int) ≤ 5000 := by omega
      clear hC hd hB hts hlt hv
      by_cases h0 : t.k = 0
      · have h0b : (t.k == 0) = true := by simpa using h0
        rw [h0b, Bool.true_or, Bool.true_and]
        rw [h0] at t0
        clear h0b
        go_enter Tryz.func29, Tryz.ntmps29
        go_wp2_with fail
        go_ret
        exact ⟨rfl, rfl⟩
      · have h0b : (t.k == 0) = false := by simpa using h0
        by_cases h3 : t.k = 3
        · have h3b : (t.k == 3) = true := by simpa using h3
          rw [h0b, h3b, Bool.false_or, Bool.true_and]
          rw [h3] at t0
          clear h0b h3b
          go_enter Tryz.func29, Tryz.ntmps29
          go_wp2_with fail
          go_ret
          exact ⟨rfl, rfl⟩
        · have h3b : (t.k == 3) = false := by simpa using h3
          rw [h0b, h3b, Bool.false_or, Bool.false_and]
          go_enter Tryz.func29, Tryz.ntmps29
          go_wp2_with fail
          go_ret
          exact ⟨rfl, rfl⟩
    · have hB : isO k s (some ts) = false := by show isT k s ts = _; unfold isT; rw [drop_no hts (by omega)]
      rw [hB]
      have tlt : ¬ (i : Int) + (k : Int) < (E.l.length : Int) := by omega
      have hik : (i : Int) + (k : Int) ≤ 5000 := by omega
      have tlt0 : (0 : Int) ≤ (i : Int) + (k : Int) := by omega
      clear hC hB hts hlt hv
      go_enter Tryz.func29, Tryz.ntmps29
      go_wp2_with fail
      go_ret
      exact ⟨rfl, rfl⟩
theorem Cx.drop {E : Env} {B : Nat} {w0 w : World} {ts : List Tok} {H : List Bx} {L : List Tn} (h : Cx E B w0 w (.r (some ts)) H L) : ∃ i, i ≤ E.l.length ∧ ts = E.l.drop i := by
  obtain ⟨i, ao, cap, hi, hts, _⟩ := h.rdS
  exact ⟨i, hi, hts.symm⟩
theorem q_isW {E : Env} {B : Nat} {w0 w : World} {st : Option (List Tok)} {H : List Bx} {L : List Tn} (hg : GoodE E) (hC : Cx E B w0 w (.r st) H L) (k : Nat) (hk : k ≤ 1000) (s : List UInt8) (hs : wl s = true) {R : Ending → World → Prop}
    (h1 : ∀ ts, st = some ts → sdB k 0 s ts = true → R (.returned (.bool true)) w) (h0 : (∀ ts, st = some ts → sdB k 0 s ts = false) → R (.returned (.bool false)) w) :
    Calls Tryz.prog 29 #[.pointer (some ⟨E.b, 0, none⟩), .int .i64 k, .string ⟨s.toArray⟩] w R := by
  refine (q_is0 hC k hk s).mono ?_
  rintro e W ⟨rfl, hW⟩
  subst hW
  cases st with
  | none => exact h0 (fun ts h => by cases h)
  | some ts =>
    obtain ⟨i, hi, rfl⟩ := hC.drop
    rw [isO_w hg hs]
    cases hb : sdB k 0 s (E.l.drop i) with
    | true => exact h1 _ rfl hb
    | false => exact h0 (fun ts h => by cases h; exact hb)
theorem q_isS {E : Env} {B : Nat} {w0 w : World} {st : Option (List Tok)} {H : List Bx} {L : List Tn} (hg : GoodE E) (hC : Cx E B w0 w (.r st) H L) (k : Nat) (hk : k ≤ 1000) (s : List UInt8) (hs : wl s = false) {R : Ending → World → Prop}
    (h1 : ∀ ts, st = some ts → sdB k 3 s ts = true → R (.returned (.bool true)) w) (h0 : (∀ ts, st = some ts → sdB k 3 s ts = false) → R (.returned (.bool false)) w) :
    Calls Tryz.prog 29 #[.pointer (some ⟨E.b, 0, none⟩), .int .i64 k, .string ⟨s.toArray⟩] w R := by
  refine (q_is0 hC k hk s).mono ?_
  rintro e W ⟨rfl, hW⟩
  subst hW
  cases st with
  | none => exact h0 (fun ts h => by cases h)
  | some ts =>
    obtain ⟨i, hi, rfl⟩ := hC.drop
    rw [isO_s hg hs]
    cases hb : sdB k 3 s (E.l.drop i) with
    | true => exact h1 _ rfl hb
    | false => exact h0 (fun ts h => by cases h; exact hb)
theorem q_got0 {E : Env} {B : Nat} {w0 w : World} {st : Option (List Tok)} {H : List Bx} {L : List Tn} (hC : Cx E B w0 w (.r st) H L) (s : List UInt8) {R : Ending → World → Prop}
    (h1 : ∀ ts W, st = some ts → isT 0 s ts = true → Cx E B w0 W (.r (some (ts.drop 1))) H L → R (.returned (.bool true)) W) (h0 : isO 0 s st = false → R (.returned (.bool false)) w) :
    Calls Tryz.prog 15 #[.pointer (some ⟨E.b, 0, none⟩), .string ⟨s.toArray⟩] w R := by
  have hq := q_is0 hC 0 (by decide) s
  cases hb : isO 0 s st with
  | false =>
    rw [hb] at hq
    have HH := hidk (h0 hb)
    clear h1 h0 hC
    go_enter Tryz.func15, Tryz.ntmps15
    go_wp2_with (first
    | (go_at_call 29; refine hq.mono ?_; rintro e wx ⟨rfl, hwx⟩; obtain rfl := hwx.symm))
    exact HH.out
  | true =>
    cases st with
    | none => cases hb
    | some ts =>
      obtain ⟨i, ao, cap, hi, hts, hv, c0, c1, c2, f1, f2, hcap⟩ := hC.rdS
      have h6 := hC.ok.len
      have hlt : i < E.l.length := by
        have hb' : isT 0 s ts = true := hb
        rcases Nat.lt_or_ge i E.l.length with h | h
        · exact h
        · unfold isT at hb'
          rw [drop_no hts (by omega)] at hb'
          cases hb'
      have hC2 : Cx E B w0 (w.setCell ⟨E.b, 1, none⟩ (.int .i64 ((i : Int) + 1))) (.r (some (ts.drop 1))) H L := by
        subst hts
        have := hC.rgo hi c1 (j := i + 1) (by omega)
        rw [List.drop_drop]
        exact this
      have HH := hidk (h1 ts _ rfl hb hC2)
      rw [hb] at hq
      clear h1 h0 hC hC2 hts hv
      go_enter Tryz.func15, Tryz.ntmps15
      go_wp2_with (first
      | (go_at_call 29; refine hq.mono ?_; rintro e wx ⟨rfl, hwx⟩; obtain rfl := hwx.symm))
      exact HH.out
theorem isT_w {E : Env} (hg : GoodE E) {i : Nat} {s : List UInt8} (hs : wl s = true) : isT 0 s (E.l.drop i) = tkB [s] (E.l.drop i) := by
  have h := isO_w hg (i := i) (k := 0) hs
  rw [sd_tk] at h
  exact h
theorem isT_s {E : Env} (hg : GoodE E) {i : Nat} {s : List UInt8} (hs : wl s = false) : isT 0 s (E.l.drop i) = (sgF s (E.l.drop i)).isSome := by
  have h := isO_s hg (i := i) (k := 0) hs
  have h2 : isT 0 s (E.l.drop i) = sdB 0 3 s (E.l.drop i) := h
  rw [h2]
  unfold sdB sgF oneF
  rw [List.drop_zero]
  cases E.l.drop i with
  | nil => rfl
  | cons t r =>
    simp only [List.contains_cons, List.contains_nil, Bool.or_false]
    cases (t.k == 3 && t.s == s) <;> rfl
theorem tkR_one {s : List UInt8} {ts : List Tok} (h : tkB [s] ts = true) : tkR [s] ts = ts.drop 1 := by
  obtain ⟨t, r, rfl, _⟩ := (tk1 _ _).1 h
  rw [tkR1 h]; rfl
theorem sg_some {s : List UInt8} {ts : List Tok} (h : (sgF s ts).isSome = true) : sgF s ts = some (s, ts.drop 1) := by
  unfold sgF oneF at h ⊢
  cases ts with
  | nil => cases h
  | cons t r =>
    simp only [List.contains_cons, List.contains_nil, Bool.or_false] at h ⊢
    cases hc : (t.k == 3 && t.s == s) with
    | false => rw [hc] at h; cases h
    | true =>
      simp only [if_true]
      rw [Bool.and_eq_true] at hc
      rw [eq_of_beq hc.2]
      rfl
section
variable {E : Env} {B : Nat} {w0 w : World} {st : Option (List Tok)} {H : List Bx} {L : List Tn} {R : Ending → World → Prop}
theorem gotW (hg : GoodE E) (hC : Cx E B w0 w (.r st) H L) (s : List UInt8) (hs : wl s = true)
    (h1 : ∀ ts W, st = some ts → tkB [s] ts = true → Cx E B w0 W (.r (some (tkR [s] ts))) H L → (tkR [s] ts).length < ts.length → R (.returned (.bool true)) W) (h0 : (∀ ts, st = some ts → tkB [s] ts = false) → Cx E B w0 w (.r st) H L → R (.returned (.bool false)) w) :
    Calls Tryz.prog 15 #[.pointer (some ⟨E.b, 0, none⟩), .string ⟨s.toArray⟩] w R := by
  refine q_got0 hC s (fun ts W e hb hD => ?_) (fun hb => h0 (fun ts e => ?_) hC)
  · subst e
    obtain ⟨i, hi, rfl⟩ := hC.drop
    rw [isT_w hg hs] at hb
    rw [← tkR_one hb] at hD
    exact h1 _ W rfl hb hD (tkR_ls hb (by simp))
  · subst e
    obtain ⟨i, hi, rfl⟩ := hC.drop
    rw [← isT_w hg hs]
    exact hb
theorem gotS (hg : GoodE E) (hC : Cx E B w0 w (.r st) H L) (s : List UInt8) (hs : wl s = false)
    (h1 : ∀ ts r W, st = some ts → sgF s ts = some (s, r) → Cx E B w0 W (.r (some r)) H L → r.length < ts.length → R (.returned (.bool true)) W) (h0 : (∀ ts, st = some ts → sgF s ts = none) → Cx E B w0 w (.r st) H L → R (.returned (.bool false)) w) :
    Calls Tryz.prog 15 #[.pointer (some ⟨E.b, 0, none⟩), .string ⟨s.toArray⟩] w R := by
  refine q_got0 hC s (fun ts W e hb hD => ?_) (fun hb => h0 (fun ts e => ?_) hC)
  · subst e
    obtain ⟨i, hi, rfl⟩ := hC.drop
    rw [isT_s hg hs] at hb
    have hh := sg_some hb
    exact h1 _ _ W rfl hh hD (by have := sgF_len hh; omega)
  · subst e
    obtain ⟨i, hi, rfl⟩ := hC.drop
    have : (sgF s (E.l.drop i)).isSome = false := by rw [← isT_s hg hs]; exact hb
    simpa using this
end
end Go.Proofs.YtaenpacfbheppaaGreatDoor
namespace Go.Proofs.YtaenpacfbheppaaGreatDoor
open Go.RowKit

def RN (E : Env) (B : Nat) (w0 : World) (H : List Bx) (L : List Tn) (o : Option (Tr × List Tok)) (e : Ending) (W : World) : Prop := ∃ t st ao cap, e = .returned (nv t.op t.s t.n ao t.L.length cap) ∧ Cx E B w0 W (.r st) H ((ao, cap, t) :: L) ∧ o = st.map (Prod.mk t)
def RL (E : Env) (B : Nat) (w0 : World) (H : List Bx) (L : List Tn) (o : Option (List Tr × List Tok)) (e : Ending) (W : World) : Prop := ∃ l st ao cap, e = .returned (.slice ao l.length cap) ∧ Cx E B w0 W (.r st) H ((ao, cap, ls l) :: L) ∧ o = st.map (Prod.mk l) ∧ 0 < l.length ∧ l.length ≤ 1000
def RS (E : Env) (B : Nat) (w0 : World) (H : List Bx) (L : List Tn) (o : Option (List UInt8 × List Tok)) (e : Ending) (W : World) : Prop := ∃ s st, e = .returned (.string ⟨s.toArray⟩) ∧ Cx E B w0 W (.r st) H L ∧ o = st.map (Prod.mk s)
def RI (E : Env) (B : Nat) (w0 : World) (H : List Bx) (L : List Tn) (o : Option (Int × List Tok)) (e : Ending) (W : World) : Prop := ∃ n st, e = .returned (.int .i64 n) ∧ Cx E B w0 W (.r st) H L ∧ o = st.map (Prod.mk n)
def bd {α β : Type} (x : Option (α × List Tok)) (k : α → List Tok → Option β) : Option β := match x with
  | none => none
  | some (a, r) => k a r
def og {α β : Type} (x : Option (α × List Tok)) (a : α → List Tok → Option β) (b : Option β) : Option β := match x with
  | none => b
  | some (y, r) => a y r
def ow {β : Type} (w : List UInt8) (ts : List Tok) (a : List Tok → Option β) (b : Option β) : Option β := if tkB [w] ts = true then a (tkR [w] ts) else b
section
variable {α β : Type} {st st' : Option (List Tok)} {o : Option β}
theorem bindN {F : Ps α} {K : α → List Tok → Option β} {t : α} (hf : st.bind F = st'.map (Prod.mk t)) (h : st.bind (fun ts => bd (F ts) K) = o) : st'.bind (K t) = o := by
  rw [← h]
  cases st with
  | none =>
    cases st' with
    | none => rfl
    | some r => cases hf
  | some ts =>
    have hf : F ts = st'.map (Prod.mk t) := hf
    show _ = bd (F ts) K
    rw [hf]
    cases st' <;> rfl
theorem bindU {w : List UInt8} {K : List Tok → Option β} (hf : st.bind (needF [w]) = st') (h : st.bind (fun ts => (needF [w] ts).bind K) = o) : st'.bind K = o := by
  rw [← h, ← hf]
  cases st <;> rfl
theorem bindT {w : List UInt8} {ts : List Tok} {A : List Tok → Option β} {B : List Tok → Option β} (hb : tkB [w] ts = true) (h : (some ts).bind (fun ts => ow w ts A (B ts)) = o) : (some (tkR [w] ts)).bind A = o := by
  rw [← h]
  show _ = ow w ts A (B ts)
  unfold ow
  rw [if_pos hb]; rfl
theorem bindF {w : List UInt8} {A : List Tok → Option β} {B : List Tok → Option β} (hb : ∀ ts, st = some ts → tkB [w] ts = false) (h : st.bind (fun ts => ow w ts A (B ts)) = o) : st.bind B = o := by
  rw [← h]
  cases st with
  | none => rfl
  | some ts =>
    show _ = ow w ts A (B ts)
    unfold ow
    rw [hb ts rfl]; rfl
theorem bindG {F : Ps α} {ts r : List Tok} {x : α} {A : α → List Tok → Option β} {B : List Tok → Option β} (hb : F ts = some (x, r)) (h : (some ts).bind (fun ts => og (F ts) A (B ts)) = o) : (some r).bind (A x) = o := by
  rw [← h]
  show _ = og (F ts) A (B ts)
  rw [hb]; rfl
theorem bindH {F : Ps α} {A : α → List Tok → Option β} {B : List Tok → Option β} (hb : ∀ ts, st = some ts → F ts = none) (h : st.bind (fun ts => og (F ts) A (B ts)) = o) : st.bind B = o := by
  rw [← h]
  cases st with
  | none => rfl
  | some ts =>
    show _ = og (F ts) A (B ts)
    rw [hb ts rfl]; rfl
theorem bindC {c : List Tok → Bool} {ts : List Tok} {A B : List Tok → Option β} (hb : c ts = true) (h : (some ts).bind (fun ts => if c ts = true then A ts else B ts) = o) : (some ts).bind A = o := by
  rw [← h]
  show _ = if c ts = true then A ts else B ts
  rw [if_pos hb]; rfl
theorem bindD {c : List Tok → Bool} {A B : List Tok → Option β} (hb : ∀ ts, st = some ts → c ts = false) (h : st.bind (fun ts => if c ts = true then A ts else B ts) = o) : st.bind B = o := by
  rw [← h]
  cases st with
  | none => rfl
  | some ts =>
    show _ = if c ts = true then A ts else B ts
    rw [hb ts rfl]; rfl
theorem bindE {T : β} {o : Option (β × List Tok)} (h : st.bind (fun r => some (T, r)) = o) : o = st.map (Prod.mk T) := by
  rw [← h]
  cases st <;> rfl
theorem bind0 (h : st.bind (fun _ => none) = o) : o = none := by
  rw [← h]
  cases st <;> rfl
end
theorem sl_of {α : Type} {F : Ps α} {st st' : Option (List Tok)} {t : α} (hl : ∀ ts x r, F ts = some (x, r) → r.length ≤ ts.length) (h : st.bind F = st'.map (Prod.mk t)) : sl st' ≤ sl st := by
  cases st with
  | none =>
    cases st' with
    | none => exact Nat.le_refl _
    | some r => cases h
  | some ts =>
    have h : F ts = st'.map (Prod.mk t) := h
    cases st' with
    | none => exact Nat.zero_le _
    | some r =>
      have := hl _ _ _ h
      simp only [sl]; omega
theorem sl_lt {α : Type} {F : Ps α} {st st' : Option (List Tok)} {t : α} (hl : ∀ ts x r, F ts = some (x, r) → r.length < ts.length) (h : st.bind F = st'.map (Prod.mk t)) : sl st' ≤ sl st - 1 := by
  cases st with
  | none =>
    cases st' with
    | none => exact Nat.le_refl _
    | some r => cases h
  | some ts =>
    have h : F ts = st'.map (Prod.mk t) := h
    cases st' with
    | none => exact Nat.zero_le _
    | some r =>
      have := hl _ _ _ h
      simp only [sl]; omega
section
variable {E : Env} {B : Nat} {w0 w : World} {st : Option (List Tok)} {H : List Bx} {L : List Tn} {R : Ending → World → Prop}
theorem mustW (hg : GoodE E) (hC : Cx E B w0 w (.r st) H L) (s : List UInt8) (hs : wl s = true)
    (h1 : ∀ st' W, st.bind (needF [s]) = st' → Cx E B w0 W (.r st') H L → sl st' ≤ sl st - 1 → R (.returned (.tuple #[])) W) :
    Calls Tryz.prog 35 #[.pointer (some ⟨E.b, 0, none⟩), .string ⟨s.toArray⟩] w R := by
  have HH := hidk h1
  have HC := hidk hC
  clear h1 hC
  cases st with
  | none =>
    go_enter Tryz.func35, Tryz.ntmps35
    go_wp2_with (go_at_call 15; refine gotW hg HC.out s hs ?_ ?_; (· intro ts W e hb hD hl; cases e); (intro hn hD; obtain ⟨i, ao, cap, hi, hv, c0, c1, c2, f1, f2, hcap⟩ := hD.rdN; have HF := hidk (HH.out none _ rfl hD.rfail (by simp [sl])); clear HH HC hn hD hv))
    refine bodyPost_end (results_none rfl _ _ _) rfl ?_
    exact HF.out
  | some ts =>
    go_enter Tryz.func35, Tryz.ntmps35
    go_wp2_with (go_at_call 15; refine gotW hg HC.out s hs ?_ ?_; (focus (intro ts W e hb hD hl; cases e; obtain ⟨i, ao, cap, hi, hts, hv, c0, c1, c2, f1, f2, hcap⟩ := hD.rdS; have HF := hidk (HH.out _ _ (by show needF [s] ts = _; unfold needF; rw [hb]; rfl) hD.rsame (by simp only [sl]; omega)); clear HH HC hb hD hl hv hts)); rotate_left; (focus (intro hn hD; obtain ⟨i, ao, cap, hi, hts, hv, c0, c1, c2, f1, f2, hcap⟩ := hD.rdS; have HF := hidk (HH.out none _ (by show needF [s] ts = _; unfold needF; rw [hn ts rfl]; rfl) hD.rfail (by simp [sl])); clear HH HC hn hD hv hts)))
    all_goals
      refine bodyPost_end (results_none rfl _ _ _) rfl ?_
      exact HF.out
theorem mustS (hg : GoodE E) (hC : Cx E B w0 w (.r st) H L) (s : List UInt8) (hs : wl s = false)
    (h1 : ∀ st' W, st.bind (sgF s) = st'.map (Prod.mk s) → Cx E B w0 W (.r st') H L → sl st' ≤ sl st - 1 → R (.returned (.tuple #[])) W) :
    Calls Tryz.prog 35 #[.pointer (some ⟨E.b, 0, none⟩), .string ⟨s.toArray⟩] w R := by
  have HH := hidk h1
  have HC := hidk hC
  clear h1 hC
  cases st with
  | none =>
    go_enter Tryz.func35, Tryz.ntmps35
    go_wp2_with (go_at_call 15; refine gotS hg HC.out s hs ?_ ?_; (· intro ts r W e hb hD hl; cases e); (intro hn hD; obtain ⟨i, ao, cap, hi, hv, c0, c1, c2, f1, f2, hcap⟩ := hD.rdN; have HF := hidk (HH.out none _ rfl hD.rfail (by simp [sl])); clear HH HC hn hD hv))
    refine bodyPost_end (results_none rfl _ _ _) rfl ?_
    exact HF.out
  | some ts =>
    go_enter Tryz.func35, Tryz.ntmps35
    go_wp2_with (go_at_call 15; refine gotS hg HC.out s hs ?_ ?_; (focus (intro ts r W e hb hD hl; cases e; obtain ⟨i, ao, cap, hi, hts, hv, c0, c1, c2, f1, f2, hcap⟩ := hD.rdS; have HF := hidk (HH.out (some r) _ hb hD.rsame (by simp only [sl]; omega)); clear HH HC hb hD hl hv hts)); rotate_left; (focus (intro hn hD; obtain ⟨i, ao, cap, hi, hts, hv, c0, c1, c2, f1, f2, hcap⟩ := hD.rdS; have HF := hidk (HH.out none _ (hn ts rfl) hD.rfail (by simp [sl])); clear HH HC hn hD hv hts)))
    all_goals
      refine bodyPost_end (results_none rfl _ _ _) rfl ?_
      exact HF.out
theorem named0 (hg : GoodE E) (hC : Cx E B w0 w (.r st) H L) :
    Calls Tryz.prog 67 #[.pointer (some ⟨E.b, 0, none⟩), .int .i64 0] w fun e w' => e = .returned (.bool (st.elim false atnB)) ∧ w' = w := by
  cases st with
  | none =>
    obtain ⟨i, ao, cap, hi, hv, c0, c1, c2, f1, f2, hcap⟩ := hC.rdN
    have h6 := hC.ok.len
    show Calls _ _ _ _ fun e w' => e = .returned (.bool false) ∧ w' = w
    clear hC hv
    go_enter Tryz.func67, Tryz.ntmps67
    go_wp2_with fail
    go_ret
    exact ⟨rfl, rfl⟩
  | some ts =>
    obtain ⟨i, ao, cap, hi, hts, hv, c0, c1, c2, f1, f2, hcap⟩ := hC.rdS
    have h6 := hC.ok.len
    show Calls _ _ _ _ fun e w' => e = .returned (.bool (atnB ts)) ∧ w' = w
    cases ts with
    | nil =>
      obtain rfl := drop_nil hi hts
      show Calls _ _ _ _ fun e w' => e = .returned (.bool false) ∧ w' = w
      have tge : ¬ (E.l.length : Int) < (E.l.length : Int) := by omega
      clear hC hv hts
      go_enter Tryz.func67, Tryz.ntmps67
      go_wp2_with fail
      go_ret
      exact ⟨rfl, rfl⟩
    | cons t r =>
      obtain ⟨hlt, ht, hr⟩ := drop_cons hts
      obtain ⟨g, cap', hv', hcap', t0, t1, t2, t3⟩ := hC.tok (ts := t :: r) hlt
      rw [ht] at t0 t1 t2 t3
      rw [hv] at hv'
      cases hv'
      have hF : atnB (t :: r) = (t.k == 0 && !resL.contains t.s) := rfl
      have HRS : Hid (t.k = 0 → ∀ W, Calls Tryz.prog 108 #[.string ⟨t.s.toArray⟩] W fun e w' => e = .returned (.bool (resL.contains t.s)) ∧ w' = W) := fun h0 W => by
        have hm : t ∈ E.l := by rw [← ht]; exact List.getElem_mem _
        refine reserved_ref ⟨t.s.toArray⟩ ?_ W
        rcases good_kinds (hg t hm) with ⟨_, h⟩ | ⟨h, _⟩ | ⟨h, _⟩
        · show t.s.toArray.size ≤ _; simp; omega
        · omega
        · omega
      have tlt : ¬ (i : Int) ≥ (E.l.length : Int) := by omega
      have tlt2 : (i : Int) < (E.l.length : Int) := by omega
      rw [hF]
      clear hC hv hts hF ht hr
      by_cases h0 : t.k = 0
      · have hrs := HRS.out h0
        clear HRS
        generalize resL.contains t.s = bq at *
        have h0b : (t.k == 0) = true := by simpa using h0
        rw [h0b, Bool.true_and]
        rw [h0] at t0
        clear h0b
        go_enter Tryz.func67, Tryz.ntmps67
        go_wp2_with (first
        | (go_at_call 108; refine (hrs _).mono ?_; rintro e wx ⟨rfl, hwx⟩; obtain rfl := hwx.symm))
        go_ret
        exact ⟨rfl, rfl⟩
      · have h0b : (t.k == 0) = false := by simpa using h0
        have h0c : (t.k != 0) = true := by simpa using h0
        rw [h0b, Bool.false_and]
        go_enter Tryz.func67, Tryz.ntmps67
        go_wp2_with fail
        go_ret
        exact ⟨rfl, rfl⟩
theorem nameF_at (t : Tok) (r : List Tok) : nameF (t :: r) = if atnB (t :: r) = true then some (t.s, r) else none := by
  unfold nameF takF atnB
  cases h1 : t.k == 0 <;> cases h2 : resL.contains t.s <;> simp [h1, h2]
theorem q_rname (hg : GoodE E) (hC : Cx E B w0 w (.r st) H L) :
    Calls Tryz.prog 34 #[.pointer (some ⟨E.b, 0, none⟩)] w (RS E B w0 H L (st.bind nameF)) := by
  have hn := named0 hg hC
  cases st with
  | none =>
    obtain ⟨i, ao, cap, hi, hv, c0, c1, c2, f1, f2, hcap⟩ := hC.rdN
    have HF : Hid (RS E B w0 H L none (.returned (.string ⟨#[]⟩)) (w.setCell ⟨E.b, 2, none⟩ (.bool true))) := ⟨[], none, rfl, hC.rfail, rfl⟩
    show Calls _ _ _ _ (RS E B w0 H L none)
    clear hC hv
    go_enter Tryz.func34, Tryz.ntmps34
    go_wp2_with (first
    | (go_at_call 67; refine hn.mono ?_; rintro e wx ⟨rfl, hwx⟩; obtain rfl := hwx.symm; simp only [Option.elim_none]))
    go_ret
    exact HF.out
  | some ts =>
    obtain ⟨i, ao, cap, hi, hts, hv, c0, c1, c2, f1, f2, hcap⟩ := hC.rdS
    have h6 := hC.ok.len
    simp only [Option.elim_some] at hn
    show Calls _ _ _ _ (RS E B w0 H L (nameF ts))
    cases hb : atnB ts with
    | false =>
      have hN : nameF ts = none := by
        cases ts with
        | nil => rfl
        | cons t r => rw [nameF_at, hb]; rfl
      have HF : Hid (RS E B w0 H L none (.returned (.string ⟨#[]⟩)) (w.setCell ⟨E.b, 2, none⟩ (.bool true))) := ⟨[], none, rfl, hC.rfail, rfl⟩
      rw [hN]
      rw [hb] at hn
      clear hC hv hts hN
      go_enter Tryz.func34, Tryz.ntmps34
      go_wp2_with (first
      | (go_at_call 67; refine hn.mono ?_; rintro e wx ⟨rfl, hwx⟩; obtain rfl := hwx.symm))
      go_ret
      exact HF.out
    | true =>
      cases ts with
      | nil => cases hb
      | cons t r =>
        obtain ⟨hlt, ht, hr⟩ := drop_cons hts
        obtain ⟨g, cap', hv', hcap', t0, t1, t2, t3⟩ := hC.tok (ts := t :: r) hlt
        rw [ht] at t0 t1 t2 t3
        rw [hv] at hv'
        cases hv'
        have hN : nameF (t :: r) = some (t.s, r) := by rw [nameF_at, hb]; rfl
        rw [hN]
        rw [hb] at hn
        have hC2 : Cx E B w0 (w.setCell ⟨E.b, 1, none⟩ (.int .i64 ((i : Int) + 1))) (.r (some r)) H L := by
          have h9 : (Cx E B w0 w (.r (some (E.l.drop i))) H L) := by rw [hts]; exact hC
          have := h9.rgo hi c1 (j := i + 1) (by omega)
          rw [hr] at this
          exact this
        have HF : Hid (∀ W, Below (w.setCell ⟨E.b, 1, none⟩ (.int .i64 ((i : Int) + 1))).heap.size (w.setCell ⟨E.b, 1, none⟩ (.int .i64 ((i : Int) + 1))) W → RS E B w0 H L (some (t.s, r)) (.returned (.string ⟨t.s.toArray⟩)) W) := fun W hW => ⟨t.s, some r, rfl, hC2.keepB hW, rfl⟩
        have hgb : g ≠ E.b := fun e => hC.ok.own (by rw [hv, ← e]; rfl)
        have gk : ∀ o, (w.setCell ⟨E.b, 1, none⟩ (.int .i64 ((i : Int) + 1))).cell? ⟨g, o, none⟩ = w.cell? ⟨g, o, none⟩ := fun o => World.cell?_of_block (Below.heap_setCell _ _ _ _ hgb)
        have s1 := (gk (i * 4 + 1)).trans t1
        have tlt2 : (i : Int) < (E.l.length : Int) := by omega
        have r0 : (w.setCell ⟨E.b, 1, none⟩ (.int .i64 ((i : Int) + 1))).cell? ⟨E.b, 0, none⟩ = some (.slice (some ⟨g, 0, none⟩) E.l.length cap) := by go_simp
        have r1 : (w.setCell ⟨E.b, 1, none⟩ (.int .i64 ((i : Int) + 1))).cell? ⟨E.b, 1, none⟩ = some (.int .i64 ((i : Int) + 1)) := by go_simp
        have e1 : (i : Int) + 1 - 1 = (i : Int) := by omega
        clear hC hC2 hv hts hN ht hr gk
        go_enter Tryz.func34, Tryz.ntmps34
        go_wp2_with (first
        | (go_at_call 67; refine hn.mono ?_; rintro e wx ⟨rfl, hwx⟩; obtain rfl := hwx.symm))
        clear t0 t1 t2 t3 c0 c1 c2 f1 f2 hn
        generalize w.setCell ⟨E.b, 1, none⟩ (.int .i64 ((i : Int) + 1)) = w2 at *
        go_quiet (fail)
        rename Nat => nq
        have HG := hidk (HF.out (w2.drewN nq) ⟨rfl, rfl, rfl, Nat.le_refl _, fun _ _ => rfl⟩)
        go_wp2_with fail
        go_ret
        exact HG.out
end
end Go.Proofs.YtaenpacfbheppaaGreatDoor
namespace Go.Proofs.YtaenpacfbheppaaGreatDoor
open Go.RowKit

def kdB (kd : Int) : List Tok → Bool
  | [] => false
  | t :: _ => t.k == kd
section
variable {E : Env} {B : Nat} {w0 w : World} {st : Option (List Tok)} {H : List Bx} {L : List Tn} {R : Ending → World → Prop}
theorem kind0 (hC : Cx E B w0 w (.r st) H L) (kd : Int) :
    Calls Tryz.prog 31 #[.pointer (some ⟨E.b, 0, none⟩), .int .i64 kd] w fun e w' => e = .returned (.bool (st.elim false (kdB kd))) ∧ ∃ n, w' = w.drewN n := by
  cases st with
  | none =>
    obtain ⟨i, ao, cap, hi, hv, c0, c1, c2, f1, f2, hcap⟩ := hC.rdN
    have h6 := hC.ok.len
    show Calls _ _ _ _ fun e w' => e = .returned (.bool false) ∧ _
    clear hC hv
    go_enter Tryz.func31, Tryz.ntmps31
    go_wp2_with fail
    go_quiet (fail)
    rename Nat => nq
    go_wp2_with fail
    go_ret
    exact ⟨rfl, nq, rfl⟩
  | some ts =>
    obtain ⟨i, ao, cap, hi, hts, hv, c0, c1, c2, f1, f2, hcap⟩ := hC.rdS
    have h6 := hC.ok.len
    show Calls _ _ _ _ fun e w' => e = .returned (.bool (kdB kd ts)) ∧ _
    cases ts with
    | nil =>
      obtain rfl := drop_nil hi hts
      show Calls _ _ _ _ fun e w' => e = .returned (.bool false) ∧ _
      have tge : ¬ (E.l.length : Int) < (E.l.length : Int) := by omega
      have tgd : decide ((E.l.length : Int) < (E.l.length : Int)) = false := decide_eq_false tge
      clear hC hv hts
      go_enter Tryz.func31, Tryz.ntmps31
      go_wp2_with fail
      go_quiet (fail)
      rename Nat => nq
      go_wp2_with fail
      go_ret
      exact ⟨rfl, nq, rfl⟩
    | cons t r =>
      obtain ⟨hlt, ht, hr⟩ := drop_cons hts
      obtain ⟨g, cap', hv', hcap', t0, t1, t2, t3⟩ := hC.tok (ts := t :: r) hlt
      rw [ht] at t0 t1 t2 t3
      rw [hv] at hv'
      cases hv'
      show Calls _ _ _ _ fun e w' => e = .returned (.bool (t.k == kd)) ∧ _
      have tlt : (i : Int) < (E.l.length : Int) := by omega
      have tld : decide ((i : Int) < (E.l.length : Int)) = true := decide_eq_true tlt
      clear hC hv hts ht hr
      go_enter Tryz.func31, Tryz.ntmps31
      go_wp2_with fail
      go_quiet (fail)
      rename Nat => nq
      go_wp2_with fail
      go_ret
      exact ⟨rfl, nq, rfl⟩
theorem kindK (hC : Cx E B w0 w (.r st) H L) (kd : Int) (h1 : ∀ t r W, st = some (t :: r) → t.k = kd → Cx E B w0 W (.r (some (t :: r))) H L → R (.returned (.bool true)) W) (h0 : ∀ W, (∀ ts, st = some ts → kdB kd ts = false) → Cx E B w0 W (.r st) H L → R (.returned (.bool false)) W) :
    Calls Tryz.prog 31 #[.pointer (some ⟨E.b, 0, none⟩), .int .i64 kd] w R := by
  refine (kind0 hC kd).mono ?_
  rintro e W ⟨rfl, n, rfl⟩
  have hD : Cx E B w0 (w.drewN n) (.r st) H L := hC.keepB ⟨rfl, rfl, rfl, Nat.le_refl _, fun _ _ => rfl⟩
  cases st with
  | none => exact h0 _ (fun ts h => by cases h) hD
  | some ts =>
    simp only [Option.elim_some]
    cases hb : kdB kd ts with
    | false => exact h0 _ (fun ts' h => by cases h; exact hb) hD
    | true =>
      cases ts with
      | nil => cases hb
      | cons t r => exact h1 t r _ rfl (eq_of_beq hb) hD
theorem q_rnumber (hC : Cx E B w0 w (.r st) H L) :
    Calls Tryz.prog 103 #[.pointer (some ⟨E.b, 0, none⟩)] w (RI E B w0 H L (st.bind numF)) := by
  have hk := kind0 hC 1
  cases st with
  | none =>
    obtain ⟨i, ao, cap, hi, hv, c0, c1, c2, f1, f2, hcap⟩ := hC.rdN
    have HF : Hid (∀ n : Nat, RI E B w0 H L none (.returned (.int .i64 0)) ((w.drewN n).setCell ⟨E.b, 2, none⟩ (.bool true))) := fun n => ⟨0, none, rfl, (hC.keepB ⟨rfl, rfl, rfl, Nat.le_refl _, fun _ _ => rfl⟩ : Cx E B w0 (w.drewN n) (.r none) H L).rfail, rfl⟩
    show Calls _ _ _ _ (RI E B w0 H L none)
    clear hC hv
    go_enter Tryz.func103, Tryz.ntmps103
    go_wp2_with (first
    | (go_at_call 31; refine hk.mono ?_; rintro e wx ⟨rfl, nq, rfl⟩; simp only [Option.elim_none]))
    go_ret
    exact HF.out _
  | some ts =>
    obtain ⟨i, ao, cap, hi, hts, hv, c0, c1, c2, f1, f2, hcap⟩ := hC.rdS
    have h6 := hC.ok.len
    simp only [Option.elim_some] at hk
    show Calls _ _ _ _ (RI E B w0 H L (numF ts))
    cases hb : kdB 1 ts with
    | false =>
      have hN : numF ts = none := by
        cases ts with
        | nil => rfl
        | cons t r =>
          have : (t.k == 1) = false := hb
          unfold numF takF; simp [this]
      have HF : Hid (∀ n : Nat, RI E B w0 H L none (.returned (.int .i64 0)) ((w.drewN n).setCell ⟨E.b, 2, none⟩ (.bool true))) := fun n => ⟨0, none, rfl, (hC.keepB ⟨rfl, rfl, rfl, Nat.le_refl _, fun _ _ => rfl⟩ : Cx E B w0 (w.drewN n) (.r (some ts)) H L).rfail, rfl⟩
      rw [hN]
      rw [hb] at hk
      clear hC hv hts hN
      go_enter Tryz.func103, Tryz.ntmps103
      go_wp2_with (first
      | (go_at_call 31; refine hk.mono ?_; rintro e wx ⟨rfl, nq, rfl⟩))
      go_ret
      exact HF.out _
    | true =>
      cases ts with
      | nil => cases hb
      | cons t r =>
        obtain ⟨hlt, ht, hr⟩ := drop_cons hts
        obtain ⟨g, cap', hv', hcap', t0, t1, t2, t3⟩ := hC.tok (ts := t :: r) hlt
        rw [ht] at t0 t1 t2 t3
        rw [hv] at hv'
        cases hv'
        have hN : numF (t :: r) = some (t.n, r) := by
          have : (t.k == 1) = true := hb
          unfold numF takF; simp [this]
        rw [hN]
        rw [hb] at hk
        have h9 : (Cx E B w0 w (.r (some (E.l.drop i))) H L) := by rw [hts]; exact hC
        have HF : Hid (∀ (n : Nat) W, Below ((w.drewN n).setCell ⟨E.b, 1, none⟩ (.int .i64 ((i : Int) + 1))).heap.size ((w.drewN n).setCell ⟨E.b, 1, none⟩ (.int .i64 ((i : Int) + 1))) W → RI E B w0 H L (some (t.n, r)) (.returned (.int .i64 t.n)) W) := fun n W hW => by
          have h8 : Cx E B w0 (w.drewN n) (.r (some (E.l.drop i))) H L := h9.keepB ⟨rfl, rfl, rfl, Nat.le_refl _, fun _ _ => rfl⟩
          have h7 := h8.rgo hi c1 (j := i + 1) (by omega)
          rw [hr] at h7
          exact ⟨t.n, some r, rfl, h7.keepB hW, rfl⟩
        have hgb : g ≠ E.b := fun e => hC.ok.own (by rw [hv, ← e]; rfl)
        have tlt2 : (i : Int) < (E.l.length : Int) := by omega
        have HS : Hid (∀ n : Nat, ((w.drewN n).setCell ⟨E.b, 1, none⟩ (.int .i64 ((i : Int) + 1))).cell? ⟨g, i * 4 + 2, none⟩ = some (.int .i64 t.n) ∧ ((w.drewN n).setCell ⟨E.b, 1, none⟩ (.int .i64 ((i : Int) + 1))).cell? ⟨E.b, 0, none⟩ = some (.slice (some ⟨g, 0, none⟩) E.l.length cap) ∧ ((w.drewN n).setCell ⟨E.b, 1, none⟩ (.int .i64 ((i : Int) + 1))).cell? ⟨E.b, 1, none⟩ = some (.int .i64 ((i : Int) + 1))) := fun n => by
          have q0 : (w.drewN n).cell? ⟨E.b, 0, none⟩ = some (.slice (some ⟨g, 0, none⟩) E.l.length cap) := c0
          have q1 : (w.drewN n).cell? ⟨E.b, 1, none⟩ = some (.int .i64 i) := c1
          have q2 : (w.drewN n).cell? ⟨g, i * 4 + 2, none⟩ = some (.int .i64 t.n) := t2
          have q3 : (w.drewN n).frozen? ⟨E.b, 1, none⟩ = false := f1
          refine ⟨(World.cell?_of_block (Below.heap_setCell _ _ _ _ hgb)).trans q2, ?_, ?_⟩
          · clear c0 c1 t2; go_simp
          · clear c0 c1 t2; go_simp
        have e1 : (i : Int) + 1 - 1 = (i : Int) := by omega
        clear hC h9 hv hts hN ht hr
        go_enter Tryz.func103, Tryz.ntmps103
        go_wp2_with (first
        | (go_at_call 31; refine hk.mono ?_; rintro e wx ⟨rfl, nk, rfl⟩))
        obtain ⟨s2, r0, r1⟩ := HS.out nk
        have HF2 := hidk (HF.out nk)
        clear t0 t1 t2 t3 c0 c1 c2 f1 f2 hk HS HF
        generalize (w.drewN nk).setCell ⟨E.b, 1, none⟩ (.int .i64 ((i : Int) + 1)) = w2 at *
        go_quiet (fail)
        rename Nat => nq
        have HG := hidk (HF2.out (w2.drewN nq) ⟨rfl, rfl, rfl, Nat.le_refl _, fun _ _ => rfl⟩)
        go_wp2_with fail
        go_ret
        exact HG.out
theorem opens0 (hg : GoodE E) (hC : Cx E B w0 w (.r st) H L) :
    Calls Tryz.prog 68 #[.pointer (some ⟨E.b, 0, none⟩)] w fun e w' => e = .returned (.bool (st.elim false opnB)) ∧ w' = w := by
  have hst := fun k hk s => q_is0 hC k hk s
  cases st with
  | none =>
    show Calls _ _ _ _ fun e w' => e = .returned (.bool false) ∧ _
    have h3 := hst 0 (by decide) [40]
    have h4 := hst 0 (by decide) [115, 101, 108, 101, 99, 116]
    replace h3 : Calls Tryz.prog 29 #[.pointer (some ⟨E.b, 0, none⟩), .int .i64 0, .string ⟨#[40]⟩] w fun e w' => e = .returned (.bool false) ∧ w' = w := h3
    replace h4 : Calls Tryz.prog 29 #[.pointer (some ⟨E.b, 0, none⟩), .int .i64 0, .string ⟨#[115, 101, 108, 101, 99, 116]⟩] w fun e w' => e = .returned (.bool false) ∧ w' = w := h4
    clear hC hst
    go_enter Tryz.func68, Tryz.ntmps68
    go_wp2_with fail
    go_loop [3] (fun y => y = .int .i64 0) (fun y => 0)
    case atStart => rfl
    case round =>
      subst hrel
      go_wp2_with (first
      | (go_at_call_of 29 (Value.string ⟨#[40]⟩); refine h3.mono ?_; rintro e w1 ⟨rfl, hw1⟩; obtain rfl := hw1.symm)
      | (go_at_call_of 29 (Value.string ⟨#[115, 101, 108, 101, 99, 116]⟩); refine h4.mono ?_; rintro e w1 ⟨rfl, hw1⟩; obtain rfl := hw1.symm))
      go_ret
      exact ⟨rfl, rfl⟩
  | some ts =>
    obtain ⟨i0, hi0, rfl⟩ := hC.drop
    have hlen : (E.l.drop i0).length ≤ 600 := by
      have := hC.ok.len
      simp; omega
    have hst3 : ∀ k : Nat, k ≤ 1000 → Calls Tryz.prog 29 #[.pointer (some ⟨E.b, 0, none⟩), .int .i64 k, .string ⟨#[40]⟩] w fun e w' => e = .returned (.bool (sdB k 3 [40] (E.l.drop i0))) ∧ w' = w := fun k hk => by
      have := hst k hk [40]
      rw [isO_s hg (by decide)] at this
      exact this
    have hst4 : ∀ k : Nat, k ≤ 1000 → Calls Tryz.prog 29 #[.pointer (some ⟨E.b, 0, none⟩), .int .i64 k, .string ⟨#[115, 101, 108, 101, 99, 116]⟩] w fun e w' => e = .returned (.bool (sdB k 0 [115, 101, 108, 101, 99, 116] (E.l.drop i0))) ∧ w' = w := fun k hk => by
      have := hst k hk [115, 101, 108, 101, 99, 116]
      rw [isO_w hg (by decide)] at this
      exact this
    show Calls _ _ _ _ fun e w' => e = .returned (.bool (opnB (E.l.drop i0))) ∧ _
    generalize E.l.drop i0 = ts at *
    obtain ⟨bq, hbq⟩ : ∃ b, b = opnB ts := ⟨_, rfl⟩
    rw [← hbq]
    have HQ := hidk hbq
    clear hbq hC hst
    go_enter Tryz.func68, Tryz.ntmps68
    go_wp2_with fail
    go_loop [3] (fun y => ∃ k : Nat, k ≤ ts.length ∧ y = .int .i64 k ∧ Hid (∀ j, j < k → sdB j 3 [40] ts = true)) (fun y => ts.length - (intOf y).toNat)
    case atStart => exact ⟨0, Nat.zero_le _, rfl, fun j hj => by omega⟩
    case round =>
      obtain ⟨k, hk, rfl, HB⟩ := hrel
      have h3 := hst3 k (by omega)
      have h4 := hst4 k (by omega)
      have hop := opnN_at HB.out
      have hle := opnN_le ts
      cases hs : sdB k 3 [40] ts with
      | true =>
        rw [hs] at h3
        have HN : Hid (∀ j, j < k + 1 → sdB j 3 [40] ts = true) := fun j hj => by
          by_cases e : j = k
          · subst e; exact hs
          · exact HB.out j (by omega)
        have hk2 := (opnN_at HN.out).1
        clear hs hst3 hst4 h4 hop HB
        go_wp2_with (go_at_call 29; refine h3.mono ?_; rintro e w1 ⟨rfl, hw1⟩; obtain rfl := hw1.symm)
        go_round
        case rel => exact ⟨k + 1, by omega, by go_num, HN⟩
        case measure => simp [intOf]; omega
      | false =>
        rw [hs] at h3
        have hk2 := hop.2 hs
        have hQ2 : bq = (decide (0 < k) && sdB k 0 [115, 101, 108, 101, 99, 116] ts) := by rw [HQ.out]; unfold opnB; rw [hk2]
        clear hs hst3 hst4 hop HB HQ hk2
        generalize sdB k 0 [115, 101, 108, 101, 99, 116] ts = b2 at *
        by_cases hk0 : 0 < k
        · have tk : (0 : Int) < (k : Int) := by omega
          rw [decide_eq_true hk0, Bool.true_and] at hQ2
          have HQ2 := hidk hQ2
          clear hQ2
          go_wp2_with (first
          | (go_at_call_of 29 (Value.string ⟨#[40]⟩); refine h3.mono ?_; rintro e w1 ⟨rfl, hw1⟩; obtain rfl := hw1.symm)
          | (go_at_call_of 29 (Value.string ⟨#[115, 101, 108, 101, 99, 116]⟩); refine h4.mono ?_; rintro e w1 ⟨rfl, hw1⟩; obtain rfl := hw1.symm))
          go_ret
          rw [HQ2.out]
          exact ⟨rfl, rfl⟩
        · have hk00 : k = 0 := by omega
          subst hk00
          have HQ2 : Hid (bq = false) := hQ2
          clear hQ2
          go_wp2_with (first
          | (go_at_call_of 29 (Value.string ⟨#[40]⟩); refine h3.mono ?_; rintro e w1 ⟨rfl, hw1⟩; obtain rfl := hw1.symm)
          | (go_at_call_of 29 (Value.string ⟨#[115, 101, 108, 101, 99, 116]⟩); refine h4.mono ?_; rintro e w1 ⟨rfl, hw1⟩; obtain rfl := hw1.symm))
          go_ret
          rw [HQ2.out]
          exact ⟨rfl, rfl⟩
theorem opensK (hg : GoodE E) (hC : Cx E B w0 w (.r st) H L) (h1 : ∀ ts, st = some ts → opnB ts = true → Cx E B w0 w (.r (some ts)) H L → R (.returned (.bool true)) w) (h0 : (∀ ts, st = some ts → opnB ts = false) → Cx E B w0 w (.r st) H L → R (.returned (.bool false)) w) :
    Calls Tryz.prog 68 #[.pointer (some ⟨E.b, 0, none⟩)] w R := by
  refine (opens0 hg hC).mono ?_
  rintro e W ⟨rfl, hW⟩
  subst hW
  cases st with
  | none => exact h0 (fun ts h => by cases h) hC
  | some ts =>
    simp only [Option.elim_some]
    cases hb : opnB ts with
    | true => exact h1 _ rfl hb hC
    | false => exact h0 (fun ts h => by cases h; exact hb) hC
theorem namedK (hg : GoodE E) (hC : Cx E B w0 w (.r st) H L) (h1 : ∀ ts, st = some ts → atnB ts = true → Cx E B w0 w (.r (some ts)) H L → R (.returned (.bool true)) w) (h0 : (∀ ts, st = some ts → atnB ts = false) → Cx E B w0 w (.r st) H L → R (.returned (.bool false)) w) :
    Calls Tryz.prog 67 #[.pointer (some ⟨E.b, 0, none⟩), .int .i64 0] w R := by
  refine (named0 hg hC).mono ?_
  rintro e W ⟨rfl, hW⟩
  subst hW
  cases st with
  | none => exact h0 (fun ts h => by cases h) hC
  | some ts =>
    simp only [Option.elim_some]
    cases hb : atnB ts with
    | true => exact h1 _ rfl hb hC
    | false => exact h0 (fun ts h => by cases h; exact hb) hC
def allF (ts : List Tok) : Option (Int × List Tok) := ow [97, 108, 108] ts (fun r => some (1, r)) (some (0, ts))
theorem q_all (hg : GoodE E) (hC : Cx E B w0 w (.r st) H L) :
    Calls Tryz.prog 102 #[.pointer (some ⟨E.b, 0, none⟩)] w (RI E B w0 H L (st.bind allF)) := by
  obtain ⟨o, ho⟩ : ∃ o, st.bind allF = o := ⟨_, rfl⟩
  rw [ho]
  have HO : Hid (st.bind (fun ts => ow [97, 108, 108] ts (fun r => some ((1 : Int), r)) (some ((0 : Int), ts))) = o) := ho
  clear ho
  go_enter Tryz.func102, Tryz.ntmps102
  go_wp2_with (first
  | (go_at_call 15; have hD := hC; clear hC; refine gotW hg hD [97, 108, 108] (by decide) ?_ ?_; (focus (intro ts W e hb hC hl; cases e; clear hD; have HO2 := hidk (bindT hb HO.out); clear HO hb)); rotate_left; (focus (intro hn hC; clear hD; have HO2 := hidk (bindF hn HO.out); clear HO hn))))
  all_goals
    go_ret
    exact ⟨_, _, rfl, hC, bindE HO2.out⟩
end
end Go.Proofs.YtaenpacfbheppaaGreatDoor
namespace Go.Proofs.YtaenpacfbheppaaGreatDoor
open Go.RowKit

section
variable {E : Env} {B : Nat} {w0 w : World} {s : Stt} {H : List Bx} {L : List Tn}
theorem Cx.came (h : Cx E B w0 w s H L) {w' : World} (hb : Below w.heap.size w w') {cs : List Value} {T : Nat} (hg : w'.heap[w.heap.size]? = some (.cells cs.toArray T (0, 0))) : Cx E B w0 w' s ((w.heap.size, cs, T) :: H) L := by
  have hk := h.keepB hb
  have hlt : ∀ x ∈ H, x.1 < w.heap.size := fun x hx => (Array.getElem?_eq_some_iff.1 (h.hl x hx).2).1
  have hv : ∀ k, E.v.ownBlock = some k → k < w.heap.size := fun k hk => (h.st.row.lo k hk).2
  refine ⟨h.ok, hk.st, hk.mv, h.lo, h.bl, h.hB, ?_, ?_, ?_, ?_⟩
  · intro x hx
    rcases List.mem_cons.1 hx with rfl | hx
    · exact ⟨h.mv.size, hg⟩
    · exact hk.hl x hx
  · intro x hx k hkk
    rcases List.mem_cons.1 hx with rfl | hx
    · have := hv k hkk; show k ≠ w.heap.size; omega
    · exact h.hn x hx k hkk
  · exact List.pairwise_cons.2 ⟨fun x hx => by have := hlt x hx; show w.heap.size ≠ x.1; omega, h.nd⟩
  · intro x hx
    refine (h.tv x hx).keep fun k hk hkl => ⟨⟨hk.1, fun y hy => ?_⟩, hb.block k hkl⟩
    rcases List.mem_cons.1 hy with rfl | hy
    · show k ≠ w.heap.size; omega
    · exact hk.2 y hy
variable {a : Act} {K : Act → World → Prop} {Q : Exit → Act → World → Prop} {o : Oper}
theorem wp_app0 (hC : Cx E B w0 w s H L) {x y : Operand} (ho : o.op = .call { callee := .builtin .append, args := #[x, y], argTypes := #[22, 22] }) (hx : a.eval x = .slice none 0 0)
    {ad : Addr} {m c : Nat} {l2 : List Tr} {k2 : List Kid} (hy : a.eval y = .slice (some ad) m c) (hm : m = l2.length) (h0 : 0 < m) (hk2 : k2.length = l2.length) (hnews : ∀ j u, (flatK k2 l2)[j]? = some u → w.cell? (ad.add j) = some u) (hin : Rin k2 l2 L) (hbig : m ≤ 100000)
    (h : ∀ W g cap', Cx E B w0 W s H ((some ⟨g, 0, none⟩, cap', ls l2) :: L) → K (a.put o.dst (.slice (some ⟨g, 0, none⟩) m cap')) W) : o.wp Tryz.prog a w K Q := by
  obtain ⟨ie, hie, hz, hsz, hby⟩ := info_parts infoN
  have hown : w.ownsRow 0 24 4 (.slice none 0 0) 0 [] := ⟨rfl, Or.inl ⟨rfl, rfl⟩⟩
  refine wp_append_lies w x y 22 ho 0 24 ie _ 4 64 undNs hie hz hsz hby rfl (by decide) (.slice none 0 0) 0 [] hx hown ad m c (flatK k2 l2) hy (by rw [flatK_len _ _ hk2, hm]) hnews (flatK_one _ _) h0 (by unfold maxLen; omega) (by omega) (Nat.zero_le _) w.heap.size rfl ?_
  intro g cap' w' hr' hgr hgk hlt
  obtain ⟨hlen, h2 | ⟨g', cap2, cur2, hv, _, hh, hc1, hc2, hsz2, hcells⟩⟩ := hr'
  · cases h2.1
  cases hv
  have hgs : g = w.heap.size := by
    rcases hgk with h | h
    · cases h
    · exact h
  subst hgs
  have hb : Below w.heap.size w w' := ⟨hgr.os, hgr.tape, hgr.output, hgr.size, fun j hj => hgr.block j hj (by intro e; cases e)⟩
  have hD := hC.came hb (cs := cur2.toList) (T := 24) (by simpa using hh)
  rw [Nat.zero_add]
  refine h w' _ cap' ?_
  refine hD.made (ks := k2) (l := l2) ⟨by simp [hsz2], by omega, hc2, hk2, ?_⟩ hin (by omega) [] [] 0
  rw [← hm]
  simpa using hcells
theorem wl_app0 {ops : Array Oper} {rest : List Oper} (hgd : o.guard = none) (hC : Cx E B w0 w s H L) {x y : Operand} (ho : o.op = .call { callee := .builtin .append, args := #[x, y], argTypes := #[22, 22] }) (hx : a.eval x = .slice none 0 0)
    {ad : Addr} {m c : Nat} {l2 : List Tr} {k2 : List Kid} (hy : a.eval y = .slice (some ad) m c) (hm : m = l2.length) (h0 : 0 < m) (hk2 : k2.length = l2.length) (hnews : ∀ j u, (flatK k2 l2)[j]? = some u → w.cell? (ad.add j) = some u) (hin : Rin k2 l2 L) (hbig : m ≤ 100000)
    (h : ∀ W g cap', Cx E B w0 W s H ((some ⟨g, 0, none⟩, cap', ls l2) :: L) → wpList Tryz.prog ops Q rest (a.put o.dst (.slice (some ⟨g, 0, none⟩) m cap')) W) : wpList Tryz.prog ops Q (o :: rest) a w :=
  wpList_plain hgd fun K hK => wp_app0 hC ho hx hy hm h0 hk2 hnews hin hbig (fun W g cap' h1 => hK _ _ (h W g cap' h1))
end
theorem wl_allocX {E : Env} {B : Nat} {w0 w : World} {s : Stt} {H : List Bx} {L : List Tn} {ops : Array Oper} {o : Oper} {rest : List Oper} {a : Act} {Q : Exit → Act → World → Prop} (hC : Cx E B w0 w s H L)
    (h : wpList Tryz.prog ops Q rest (a.put o.dst (.pointer (some ⟨w.heap.size, 0, none⟩))) (w.alloc (.cells #[.string ⟨#[]⟩, .string ⟨#[]⟩, .int .i64 0, .slice none 0 0] 24))) (hgd : o.guard = none) (ho : o.op = .alloc 24) : wpList Tryz.prog ops Q (o :: rest) a w := by
  refine wpList_plain hgd fun K hK => ?_
  have e : (Instr.alloc 24 true (.tuple #[])).run Tryz.prog w = .ok (.pointer (some ⟨w.heap.size, 0, none⟩)) (w.alloc (.cells #[.string ⟨#[]⟩, .string ⟨#[]⟩, .int .i64 0, .slice none 0 0] 24)) := by
    obtain ⟨ie, hie, hz, hsz, _⟩ := info_parts infoN
    simp [Instr.alloc, zeroValue, typeInfo, hie, hz, newVar, newRow]
    rfl
  unfold Oper.wp execOp
  simp only [ho, Sem.run_bind, e, Result.andThen_ok]
  exact hK _ _ h
def RD (E : Env) (B : Nat) (w0 : World) (s : Stt) (H : List Bx) (L : List Tn) (t : Tr) (e : Ending) (W : World) : Prop := ∃ ao cap, e = .returned (nv t.op t.s t.n ao t.L.length cap) ∧ Cx E B w0 W s H ((ao, cap, t) :: L)
section
variable {E : Env} {B : Nat} {w0 w : World} {s : Stt} {H : List Bx} {L : List Tn}
theorem q_rnode0 (hC : Cx E B w0 w s H L) (op st : List UInt8) (n : Int) :
    Calls Tryz.prog 33 #[.string ⟨op.toArray⟩, .string ⟨st.toArray⟩, .int .i64 n, .slice none 0 0] w (RD E B w0 s H L (.mk op st n [])) := by
  go_enter Tryz.func33, Tryz.ntmps33
  go_wp2_with (first
  | (refine bA ?_; clear hC; intro W k hC)
  | (refine hC.sN 0 ?_; clear hC; intro W hC; simp only [pS] at hC; (try simp only [pP])))
  refine hC.rc ?_
  exact ⟨none, 0, rfl, (hC.leaf op st n).less (List.sublist_cons_self _ _) (fun x hx => hx)⟩
theorem q_rnodeG (hC : Cx E B w0 w s H L) (op st : List UInt8) (n : Int) {ad : Addr} {m c : Nat} {l2 : List Tr} {k2 : List Kid} (hm : m = l2.length) (h0 : 0 < m) (hk2 : k2.length = l2.length) (hnews : ∀ W, Below w.heap.size w W → ∀ j u, (flatK k2 l2)[j]? = some u → W.cell? (ad.add j) = some u) (hin : Rin k2 l2 L) (hbig : m ≤ 100000) :
    Calls Tryz.prog 33 #[.string ⟨op.toArray⟩, .string ⟨st.toArray⟩, .int .i64 n, .slice (some ad) m c] w (RD E B w0 s H L (.mk op st n l2)) := by
  have HN : Hid (∀ o : Obj, ∀ j u, (flatK k2 l2)[j]? = some u → (w.alloc o).cell? (ad.add j) = some u) := fun o => hnews _ ((Below.refl _ _).alloc (Nat.le_refl _) o)
  have HI := hidk hin
  clear hnews hin
  go_enter Tryz.func33, Tryz.ntmps33
  go_wp2_with (first
  | (guard_target = wpList _ _ _ (Oper.mk _ (Op.alloc 24) _ _ _ _ :: _) _ _; have hD := hC; clear hC; have hE := hD.alloc [.string ⟨#[]⟩, .string ⟨#[]⟩, .int .i64 0, .slice none 0 0] 24; have hN := HN.out (.cells #[.string ⟨#[]⟩, .string ⟨#[]⟩, .int .i64 0, .slice none 0 0] 24); refine wl_allocX hD ?_ rfl rfl; clear hD; generalize w.alloc (.cells #[.string ⟨#[]⟩, .string ⟨#[]⟩, .int .i64 0, .slice none 0 0] 24) = W at *; generalize w.heap.size = k at *; rename_i hC0; have hC := hE; clear hE; (try simp only [pP]))
  | (at_builtin; have hD := hC; clear hC; refine wl_app0 rfl hD (by rfl) (by rfl) (by rfl) hm h0 hk2 hN HI.out hbig ?_; clear hD hN; intro W g cap2 hC)
  | (refine hC.sN 0 ?_; clear hC; intro W hC; simp only [pS] at hC; (try simp only [pP])))
  refine hC.rc ?_
  refine ⟨_, _, rfl, ?_⟩
  exact ((hC.root (.head _) op st n).less (List.sublist_cons_self _ _) (fun x hx => by rcases List.mem_cons.1 hx with rfl | hx; exact .head _; exact .tail _ (.tail _ hx)))
theorem q_rnodeB (ts : List (Option Addr × Nat × Tr)) {k T : Nat} {cs : List Value} (hC : Cx E B w0 w s ((k, cs, T) :: H) L) (op st : List UInt8) (n : Int) (hcs : cs = flatK (ts.map fun x => (x.1, x.2.1)) (ts.map fun x => x.2.2)) (hin : ∀ x ∈ ts, x ∈ L) (h0 : 0 < ts.length) (hbig : ts.length ≤ 100) {m : Nat} (hm : m = ts.length) :
    Calls Tryz.prog 33 #[.string ⟨op.toArray⟩, .string ⟨st.toArray⟩, .int .i64 n, .slice (some ⟨k, 0, none⟩) m m] w (RD E B w0 s H L (.mk op st n (ts.map fun x => x.2.2))) := by
  refine q_rnodeG (hC.less (List.sublist_cons_self _ _) (fun x hx => hx)) op st n (k2 := ts.map fun x => (x.1, x.2.1)) (by simp [hm]) (by omega) (by simp) (fun W hW j u hu => ?_) (fun i h1 h2 => ?_) (by omega)
  · rw [← hcs] at hu
    have := (hC.keepB hW).cell 0 rfl j hu
    rwa [Addr.add_mid, Nat.zero_add]
  · simp only [List.getElem_map]
    exact hin _ (List.getElem_mem _)
theorem q_rnode1 {k T : Nat} {a1 : Option Addr} {p1 : Nat} {t1 : Tr} (op st : List UInt8) (n : Int) (hC : Cx E B w0 w s ((k, ncs a1 p1 t1, T) :: H) L) (h1 : (a1, p1, t1) ∈ L) :
    Calls Tryz.prog 33 #[.string ⟨op.toArray⟩, .string ⟨st.toArray⟩, .int .i64 n, .slice (some ⟨k, 0, none⟩) 1 1] w (RD E B w0 s H L (.mk op st n [t1])) :=
  q_rnodeB [(a1, p1, t1)] hC op st n (by simp [flatK]) (by simpa using h1) (by simp) (by simp) rfl
theorem q_rnode2 {k T : Nat} {a1 a2 : Option Addr} {p1 p2 : Nat} {t1 t2 : Tr} (op st : List UInt8) (n : Int) (hC : Cx E B w0 w s ((k, ncs a1 p1 t1 ++ ncs a2 p2 t2, T) :: H) L) (h1 : (a1, p1, t1) ∈ L) (h2 : (a2, p2, t2) ∈ L) :
    Calls Tryz.prog 33 #[.string ⟨op.toArray⟩, .string ⟨st.toArray⟩, .int .i64 n, .slice (some ⟨k, 0, none⟩) 2 2] w (RD E B w0 s H L (.mk op st n [t1, t2])) :=
  q_rnodeB [(a1, p1, t1), (a2, p2, t2)] hC op st n (by simp [flatK]) (by simp [h1, h2]) (by simp) (by simp) rfl
theorem q_rnode3 {k T : Nat} {a1 a2 a3 : Option Addr} {p1 p2 p3 : Nat} {t1 t2 t3 : Tr} (op st : List UInt8) (n : Int) (hC : Cx E B w0 w s ((k, ncs a1 p1 t1 ++ ncs a2 p2 t2 ++ ncs a3 p3 t3, T) :: H) L) (h1 : (a1, p1, t1) ∈ L) (h2 : (a2, p2, t2) ∈ L) (h3 : (a3, p3, t3) ∈ L) :
    Calls Tryz.prog 33 #[.string ⟨op.toArray⟩, .string ⟨st.toArray⟩, .int .i64 n, .slice (some ⟨k, 0, none⟩) 3 3] w (RD E B w0 s H L (.mk op st n [t1, t2, t3])) :=
  q_rnodeB [(a1, p1, t1), (a2, p2, t2), (a3, p3, t3)] hC op st n (by simp [flatK]) (by simp [h1, h2, h3]) (by simp) (by simp) rfl
theorem q_rnode5 {k T : Nat} {a1 a2 a3 a4 a5 : Option Addr} {p1 p2 p3 p4 p5 : Nat} {t1 t2 t3 t4 t5 : Tr} (op st : List UInt8) (n : Int) (hC : Cx E B w0 w s ((k, ncs a1 p1 t1 ++ ncs a2 p2 t2 ++ ncs a3 p3 t3 ++ ncs a4 p4 t4 ++ ncs a5 p5 t5, T) :: H) L) (h1 : (a1, p1, t1) ∈ L) (h2 : (a2, p2, t2) ∈ L) (h3 : (a3, p3, t3) ∈ L) (h4 : (a4, p4, t4) ∈ L) (h5 : (a5, p5, t5) ∈ L) :
    Calls Tryz.prog 33 #[.string ⟨op.toArray⟩, .string ⟨st.toArray⟩, .int .i64 n, .slice (some ⟨k, 0, none⟩) 5 5] w (RD E B w0 s H L (.mk op st n [t1, t2, t3, t4, t5])) :=
  q_rnodeB [(a1, p1, t1), (a2, p2, t2), (a3, p3, t3), (a4, p4, t4), (a5, p5, t5)] hC op st n (by simp [flatK]) (by simp [h1, h2, h3, h4, h5]) (by simp) (by simp) rfl
theorem q_rnodeL {ao : Option Addr} {cap len : Nat} {l : List Tr} (op st : List UInt8) (n : Int) (hC : Cx E B w0 w s H L) (h1 : (ao, cap, ls l) ∈ L) (hlen : len = l.length) (hbig : l.length ≤ 100000) :
    Calls Tryz.prog 33 #[.string ⟨op.toArray⟩, .string ⟨st.toArray⟩, .int .i64 n, .slice ao len cap] w (RD E B w0 s H L (.mk op st n l)) := by
  subst hlen
  cases l with
  | nil =>
    have htv := hC.tv _ h1
    cases htv with
    | leaf => exact q_rnode0 hC op st n
    | row g cap op s n L kids hP hlt h0 => simp at h0
  | cons t l =>
    obtain ⟨g, ks, rfl, hks, hcap, hcells, L', hC', hL, hR⟩ := hC.open_ h1 (by simp [Tr.L])
    refine (q_rnodeG hC' op st n (k2 := ks) (l2 := t :: l) rfl (by simp) hks (fun W hW j u hu => ?_) hR hbig).mono ?_
    · have h3 := hcells j u hu
      rw [Addr.add_mid, Nat.zero_add]
      exact (hW.cell (World.block_lt_of_cell? w _ h3)).trans h3
    · rintro e W ⟨ao, cp, he, hD⟩
      refine ⟨ao, cp, he, hD.less (List.Sublist.refl _) (fun x hx => ?_)⟩
      rcases List.mem_cons.1 hx with rfl | hx
      · exact .head _
      · exact .tail _ (hL _ hx)
end
end Go.Proofs.YtaenpacfbheppaaGreatDoor
