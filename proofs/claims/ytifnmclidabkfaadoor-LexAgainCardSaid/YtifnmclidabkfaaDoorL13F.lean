/- All tokens from a place on; what is skipped. -/
import Derived.Test.YtifnmclidabkfaaDoorL13E
namespace Go.Proofs.YtifnmclidabkfaaDoor
open Go.RowKit
set_option linter.unusedVariables false
set_option linter.unusedSimpArgs false

/-- All tokens from a place on, if so many came ahead. -/
def scA (s : ByteArray) (p c : Nat) : Except Nat (List Tok) := scN (s.size - p) p c (rest s p)
theorem rest_add (s : ByteArray) (p n : Nat) : (rest s p).drop n = rest s (p + n) := by
  unfold rest
  rw [List.drop_drop]
theorem scA_fuel (s : ByteArray) (p c f : Nat) (h : s.size - p ≤ f) : scN f p c (rest s p) = scA s p c :=
  scN_fuel (s.size - p) _ _ _ _ _ (by rw [rest_len]; omega) (by rw [rest_len]; omega) (by rw [rest_len]; omega)
theorem scA_all (s : ByteArray) : scN s.data.toList.length 0 0 s.data.toList = scA s 0 0 := by
  have := scA_fuel s 0 0 s.data.toList.length (by simp)
  rw [← this]
  rfl
theorem scA_end (s : ByteArray) {p : Nat} (c : Nat) (h : s.size ≤ p) : scA s p c = .ok [] := by
  unfold scA
  rw [show s.size - p = 0 by omega]
  rfl
theorem scA_bl (s : ByteArray) {p n : Nat} (c : Nat) (h : blN (rest s p) = n) (hn : 0 < n) : scA s p c = scA s (p + n) c := by
  have hl := blN_le (rest s p)
  rw [rest_len, h] at hl
  unfold scA
  obtain ⟨m, hm⟩ : ∃ m, s.size - p = m + 1 := ⟨s.size - p - 1, by omega⟩
  have hne : ¬ rest s p = [] := fun e => by
    have := rest_len s p
    rw [e] at this
    simp at this
    omega
  have hst : stp (rest s p) = .bl n := by
    unfold stp
    rw [h, if_pos hn]
  rw [hm]
  simp only [scN]
  rw [if_neg hne, hst]
  simp only
  rw [rest_add, scA_fuel s (p + n) c m (by omega)]
  rfl
theorem scA_no (s : ByteArray) {p e : Nat} (c : Nat) (hp : p < s.size) (h : stp (rest s p) = .no e) : scA s p c = .error e := by
  unfold scA
  obtain ⟨m, hm⟩ : ∃ m, s.size - p = m + 1 := ⟨s.size - p - 1, by omega⟩
  have hne : ¬ rest s p = [] := fun e => by
    have := rest_len s p
    rw [e] at this
    simp at this
    omega
  rw [hm]
  simp only [scN]
  rw [if_neg hne, h]
theorem scA_tk (s : ByteArray) {p : Nat} (c : Nat) (hp : p < s.size) {k : Int} {t : List UInt8} {v : Int} {n : Nat} (h : stp (rest s p) = .tk k t v n) : scA s p c = if 600 ≤ c then .error 4 else match scA s (p + n) (c + 1) with
    | .error e => .error e
    | .ok l => .ok (⟨k, t, v, p⟩ :: l) := by
  have hl := stp_tk h
  rw [rest_len] at hl
  unfold scA
  obtain ⟨m, hm⟩ : ∃ m, s.size - p = m + 1 := ⟨s.size - p - 1, by omega⟩
  have hne : ¬ rest s p = [] := fun e => by
    have := rest_len s p
    rw [e] at this
    simp at this
    omega
  rw [hm]
  simp only [scN]
  rw [if_neg hne, h]
  simp only
  rw [rest_add, scA_fuel s (p + n) (c + 1) m (by omega)]
  rfl
/-- From one place to another there are blanks and comments alone. -/
structure Skp (s : ByteArray) (p q : Nat) : Prop where
  ge : p ≤ q
  le : q ≤ s.size
  sc : ∀ c, scA s p c = scA s q c
theorem Skp.refl {s : ByteArray} {p : Nat} (h : p ≤ s.size) : Skp s p p := ⟨Nat.le_refl _, h, fun _ => rfl⟩
theorem Skp.trans {s : ByteArray} {p q r : Nat} (h : Skp s p q) (k : Skp s q r) : Skp s p r := ⟨Nat.le_trans h.ge k.ge, k.le, fun c => (h.sc c).trans (k.sc c)⟩
theorem tw_le (s : ByteArray) (k : UInt8 → Bool) {p : Nat} (hp : p ≤ s.size) : p + ((rest s p).takeWhile k).length ≤ s.size := by
  have := tw_len k (rest s p)
  rw [rest_len] at this
  omega
theorem skp_blanks (s : ByteArray) : ∀ (m p : Nat), s.size - p ≤ m → p ≤ s.size → Skp s p (p + ((rest s p).takeWhile isBl).length) := by
  intro m
  induction m with
  | zero =>
    intro p hm hp
    rw [rest_end s (by omega)]
    exact Skp.refl hp
  | succ m ih =>
    intro p hm hp
    by_cases hlt : p < s.size
    · rw [rest_at s hlt, List.takeWhile_cons]
      split
      · rename_i hb
        have h1 : blN (rest s p) = 1 := by rw [rest_at s hlt]; simp [blN, hb]
        have := ih (p + 1) (by omega) (by omega)
        rw [List.length_cons, show p + (((rest s (p + 1)).takeWhile isBl).length + 1) = p + 1 + ((rest s (p + 1)).takeWhile isBl).length by omega]
        exact Skp.trans ⟨by omega, by omega, fun c => scA_bl s c h1 (by omega)⟩ this
      · exact Skp.refl hp
    · rw [rest_end s (by omega)]
      exact Skp.refl hp
theorem tw_stopped (s : ByteArray) (k : UInt8 → Bool) (p : Nat) (h : p + ((rest s p).takeWhile k).length < s.size) : k (s[p + ((rest s p).takeWhile k).length]) = false := by
  generalize hn : ((rest s p).takeWhile k).length = n at *
  have e : rest s (p + n) = s[p + n] :: rest s (p + n + 1) := rest_at s h
  rw [← rest_add] at e
  have hd : (rest s p).drop n = (rest s p).dropWhile k := by
    rw [← hn]
    have : ∀ l : List UInt8, l.drop (l.takeWhile k).length = l.dropWhile k := fun l => by
      induction l with
      | nil => rfl
      | cons a l ih =>
        rw [List.takeWhile_cons, List.dropWhile_cons]
        split
        · simpa using ih
        · rfl
    exact this _
  rw [hd] at e
  have hne : (rest s p).dropWhile k ≠ [] := by rw [e]; simp
  have := List.head_dropWhile_not k hne
  have h2 : ((rest s p).dropWhile k).head hne = s[p + n] := by
    have : ∀ (l : List UInt8) (h : l ≠ []) (x : UInt8) (t : List UInt8), l = x :: t → l.head h = x := fun l h x t e => by subst e; rfl
    exact this _ _ _ _ e
  rw [h2] at this
  simpa using this
theorem skp_line (s : ByteArray) {p : Nat} (h : ([45, 45] : List UInt8).isPrefixOf (rest s p) = true) : Skp s p (p + ((rest s p).takeWhile (fun c => c != 10)).length) ∧ 0 < ((rest s p).takeWhile (fun c => c != 10)).length := by
  obtain ⟨t, ht⟩ := List.isPrefixOf_iff_prefix.1 h
  have hl := rest_len s p
  rw [← ht] at hl
  simp at hl
  have hb : blN (rest s p) = ((rest s p).takeWhile (fun c => c != 10)).length := by
    rw [← ht]
    have h45 : ((45 : UInt8) != 10) = true := by decide
    simp only [List.cons_append, List.nil_append, blN, List.takeWhile_cons, h45, if_true]
    rw [if_neg (by decide), if_pos (by decide)]
    simp only [List.length_cons]
    omega
  have h0 : 0 < ((rest s p).takeWhile (fun c => c != 10)).length := by
    rw [← ht]
    have h45 : ((45 : UInt8) != 10) = true := by decide
    simp only [List.cons_append, List.takeWhile_cons, h45, if_true, List.length_cons]
    omega
  exact ⟨⟨by omega, tw_le s _ (by omega), fun c => scA_bl s c hb h0⟩, h0⟩
/-- Nothing is skipped at a place. -/
theorem still_of {s : ByteArray} {q : Nat} (h1 : ∀ h : q < s.size, isBl s[q] = false) (h2 : ([45, 45] : List UInt8).isPrefixOf (rest s q) = false) : blN (rest s q) = 0 := by
  by_cases hq : q < s.size
  · rw [rest_at s hq]
    rw [rest_at s hq] at h2
    have hb := h1 hq
    cases hr : rest s (q + 1) with
    | nil => simp [blN, hb]
    | cons d r =>
      rw [hr] at h2
      simp only [List.isPrefixOf] at h2
      simp only [blN, hb]
      rw [if_neg (by simp), if_neg]
      intro e
      simp only [Bool.and_eq_true, beq_iff_eq] at e
      rw [e.1, e.2] at h2
      simp at h2
  · rw [rest_end s (by omega)]
    rfl
/-- What skipping comes to. -/
structure SkTo (w : World) (b : Nat) (s : ByteArray) (p : Nat) (e : Ending) (w' : World) (q : Nat) : Prop where
  e : e = .returned (.tuple #[])
  sc : Sc w' b s q
  fr : Fr w w' (fun i => i = b)
  sk : Skp s p q
  no : blN (rest s q) = 0
theorem enters_bl : Enters Tryd.prog 15 := enters_of Tryd.func15 (by kernel_rfl) rfl
theorem enters_dg : Enters Tryd.prog 20 := enters_of Tryd.func20 (by kernel_rfl) rfl
theorem enters_wd : Enters Tryd.prog 26 := enters_of Tryd.func26 (by kernel_rfl) rfl
theorem enters_ln : Enters Tryd.prog 17 := enters_of Tryd.func17 (by kernel_rfl) rfl
/-- What is taken by a kind that changes nothing. -/
structure TkP (w : World) (b : Nat) (s : ByteArray) (p : Nat) (k : UInt8 → Bool) (e : Ending) (w' : World) : Prop where
  e : e = .returned (.string (s.extract p (p + ((rest s p).takeWhile k).length)))
  sc : Sc w' b s (p + ((rest s p).takeWhile k).length)
  fr : Fr w w' (fun i => i = b)
theorem take_pure {w : World} {b : Nat} {s : ByteArray} {p : Nat} (h : Sc w b s p) (hs : s.size ≤ 10000) (k : UInt8 → Bool) (g : Nat) (eg : Enters Tryd.prog g) (hg : ∀ (c : UInt8) W, Calls Tryd.prog g #[.int .u8 c.toNat] W fun e W' => e = .returned (.bool (k c)) ∧ W' = W) :
    Calls Tryd.prog 14 #[.pointer (some ⟨b, 0, none⟩), .func (.func g) #[] #[]] w fun e w' => TkP w b s p k e w' := by
  refine (take_any h hs k g #[] eg (fun _ => False) (fun h => h) (fun _ _ => True) trivial (fun _ _ _ _ _ => trivial) (fun l c W _ _ => ?_)).mono ?_
  · refine (hg c W).mono ?_
    rintro e W' ⟨rfl, rfl⟩
    exact ⟨rfl, Fr.refl _ _, trivial⟩
  · rintro e w' ⟨h1, h2, h3, _⟩
    exact ⟨h1, h2, h3.mono (fun i hi => hi.elim id False.elim)⟩
theorem take_bl {w : World} {b : Nat} {s : ByteArray} {p : Nat} (h : Sc w b s p) (hs : s.size ≤ 10000) : Calls Tryd.prog 14 #[.pointer (some ⟨b, 0, none⟩), .func (.func 15) #[] #[]] w fun e w' => TkP w b s p isBl e w' :=
  take_pure h hs isBl _ enters_bl (fun c W => by have := isBlank_any (c.toNat : Int) W; rw [blI_of] at this; exact this)
theorem take_dg {w : World} {b : Nat} {s : ByteArray} {p : Nat} (h : Sc w b s p) (hs : s.size ≤ 10000) : Calls Tryd.prog 14 #[.pointer (some ⟨b, 0, none⟩), .func (.func 20) #[] #[]] w fun e w' => TkP w b s p isDg e w' :=
  take_pure h hs isDg _ enters_dg (fun c W => by have := isDigit_any (c.toNat : Int) W; rw [dgI_of] at this; exact this)
theorem take_wd {w : World} {b : Nat} {s : ByteArray} {p : Nat} (h : Sc w b s p) (hs : s.size ≤ 10000) : Calls Tryd.prog 14 #[.pointer (some ⟨b, 0, none⟩), .func (.func 26) #[] #[]] w fun e w' => TkP w b s p isWd e w' :=
  take_pure h hs isWd _ enters_wd (fun c W => wordKind_any c W)
theorem take_ln {w : World} {b : Nat} {s : ByteArray} {p : Nat} (h : Sc w b s p) (hs : s.size ≤ 10000) : Calls Tryd.prog 14 #[.pointer (some ⟨b, 0, none⟩), .func (.func 17) #[] #[]] w fun e w' => TkP w b s p (fun c => c != 10) e w' :=
  take_pure h hs (fun c => c != 10) _ enters_ln (fun c W => lineKind_any c W)
set_option maxHeartbeats 1000000 in
theorem skip_any {w : World} {b : Nat} {s : ByteArray} {p : Nat} (h : Sc w b s p) (hs : s.size ≤ 10000) : Calls Tryd.prog 9 #[.pointer (some ⟨b, 0, none⟩)] w fun e w' => ∃ q, SkTo w b s p e w' q := by
  have hp := h.le
  have hbl := take_bl h hs
  clear h
  go_enter Tryd.func9, Tryd.ntmps9
  go_wp2_with fail
  refine hbl.mono ?_
  rintro e w1 ⟨rfl, hS1, hF1⟩
  have HS0 := Go.Proofs.YtifnmclidabkfaaDoor.Hid.mk' hS1
  have HF0 := Go.Proofs.YtifnmclidabkfaaDoor.Hid.mk' hF1
  have HK0 := Go.Proofs.YtifnmclidabkfaaDoor.Hid.mk' (skp_blanks s s.size p (by omega) hp)
  have HB0 := Go.Proofs.YtifnmclidabkfaaDoor.Hid.mk' (tw_stopped s isBl p)
  generalize p + ((rest s p).takeWhile isBl).length = q0 at *
  clear hbl hS1 hF1
  go_wp2_with fail
  go_loopg [] s.size (fun kx wr => ∃ q : Nat, s.size - q ≤ kx ∧ Hid (Sc wr b s q) ∧ Hid (Fr w wr (fun i => i = b)) ∧ Hid (Skp s p q) ∧ Hid (∀ h : q < s.size, isBl s[q] = false))
  case atStart => exact ⟨q0, by omega, HS0, HF0, HK0, HB0⟩
  case round =>
    rename World => wr
    obtain ⟨q, hkx, HS, HF, HK, HB⟩ := hrel
    clear HS0 HF0 HK0 HB0
    have hst := stands_any HS.out hs ⟨#[45, 45]⟩
    simp only at hst
    cases hpre : ([45, 45] : List UInt8).isPrefixOf (rest s q) with
    | false =>
      have HN := Go.Proofs.YtifnmclidabkfaaDoor.Hid.mk' (still_of HB.out hpre)
      rw [hpre] at hst
      clear hpre
      go_wp2_with fail
      refine hst.mono ?_
      rintro e w2 ⟨rfl, hb2⟩
      clear hst
      go_wp2_with fail
      refine bodyPost_end (v := .tuple #[]) (by simp [results, Tryd.results9, go_sem]) rfl ?_
      exact ⟨q, rfl, HS.out.keepB hb2, HF.out.trans (Fr.of_below (F := fun _ => False) hb2) (fun i hi => hi.elim), HK.out, HN.out⟩
    | true =>
      obtain ⟨hk1, h0⟩ := skp_line s hpre
      rw [hpre] at hst
      have HK1 := Go.Proofs.YtifnmclidabkfaaDoor.Hid.mk' (HK.out.trans hk1)
      clear hpre HK HB
      go_wp2_with fail
      refine hst.mono ?_
      rintro e w2 ⟨rfl, hb2⟩
      clear hst
      have hS2 := HS.out.keepB hb2
      have HF2 := Go.Proofs.YtifnmclidabkfaaDoor.Hid.mk' (HF.out.trans (Fr.of_below (F := fun _ => False) hb2) (fun i hi => hi.elim))
      have ht := take_ln hS2 hs
      clear hS2 hb2 HS HF
      go_wp2_with fail
      refine ht.mono ?_
      rintro e w3 ⟨rfl, hS3, hF3⟩
      clear ht
      have HF3 := Go.Proofs.YtifnmclidabkfaaDoor.Hid.mk' (HF2.out.trans hF3 (fun i hi => Or.inl hi))
      have hle3 := hk1.le
      have hge3 := hk1.ge
      clear hk1 hF3 HF2
      generalize hq3 : q + ((rest s q).takeWhile (fun c => c != 10)).length = q3 at *
      have hq3' : q < q3 := by omega
      clear hq3 h0
      have ht := take_bl hS3 hs
      have HK4 := Go.Proofs.YtifnmclidabkfaaDoor.Hid.mk' (HK1.out.trans (skp_blanks s s.size q3 (by omega) hle3))
      have HB4 := Go.Proofs.YtifnmclidabkfaaDoor.Hid.mk' (tw_stopped s isBl q3)
      clear hS3 HK1
      go_wp2_with fail
      refine ht.mono ?_
      rintro e w4 ⟨rfl, hS4, hF4⟩
      clear ht
      have HS4 := Go.Proofs.YtifnmclidabkfaaDoor.Hid.mk' hS4
      have HF4 := Go.Proofs.YtifnmclidabkfaaDoor.Hid.mk' (HF3.out.trans hF4 (fun i hi => Or.inl hi))
      have hge4 : q3 ≤ q3 + ((rest s q3).takeWhile isBl).length := by omega
      generalize q3 + ((rest s q3).takeWhile isBl).length = q4 at *
      clear hS4 hF4 HF3
      go_wp2_with fail
      go_roundg (s.size - q4)
      case measure => omega
      case rel => exact ⟨q4, Nat.le_refl _, HS4, HF4, HK4, HB4⟩
end Go.Proofs.YtifnmclidabkfaaDoor
