/- The program's number. -/
import Derived.Test.YtifnmclidabkfaaDoorL13G
namespace Go.Proofs.YtifnmclidabkfaaDoor
open Go.RowKit Go.Joins
set_option linter.unusedVariables false
set_option linter.unusedSimpArgs false

def valA (a : Nat) (d : List UInt8) : Nat := d.foldl (fun v c => 10 * v + (c.toNat - 48)) a
theorem valA_cons (a : Nat) (c : UInt8) (d : List UInt8) : valA a (c :: d) = valA (10 * a + (c.toNat - 48)) d := by
  unfold valA
  rw [List.foldl_cons]
theorem valA_ge (d : List UInt8) : ∀ a, a ≤ valA a d := by
  induction d with
  | nil => intro a; exact Nat.le_refl _
  | cons c d ih =>
    intro a
    rw [valA_cons]
    have := ih (10 * a + (c.toNat - 48))
    omega
theorem dg_bounds {c : UInt8} (h : isDg c = true) : 48 ≤ c.toNat ∧ c.toNat ≤ 57 := by
  simp only [isDg, Bool.and_eq_true, decide_eq_true_eq] at h
  exact ⟨UInt8.le_iff_toNat_le.1 h.1, UInt8.le_iff_toNat_le.1 h.2⟩
theorem parseM_digits : ∀ (d : List UInt8) (a : Nat), (∀ c ∈ d, isDg c = true) → a ≤ 18446744073709551615 → Lib.parseUintM 18446744073709551615 a d = if 18446744073709551615 < valA a d then .range else .ok (valA a d) := by
  intro d
  induction d with
  | nil =>
    intro a _ ha
    rw [show valA a [] = a from rfl, if_neg (by omega)]
    rfl
  | cons c d ih =>
    intro a hd ha
    have hc := dg_bounds (hd c (by simp))
    rw [valA_cons]
    have hge := valA_ge d (10 * a + (c.toNat - 48))
    simp only [Lib.parseUintM]
    rw [if_pos hc]
    by_cases h1 : 1844674407370955162 ≤ a
    · rw [if_pos h1, if_pos (by omega)]
    · rw [if_neg h1]
      by_cases h2 : 18446744073709551615 < a * 10 + (c.toNat - 48)
      · rw [if_pos h2, if_pos (by omega)]
      · rw [if_neg h2, show a * 10 + (c.toNat - 48) = 10 * a + (c.toNat - 48) by omega]
        exact ih _ (fun x hx => hd x (by simp [hx])) (by omega)
theorem parse_digits {d : List UInt8} (hd : ∀ c ∈ d, isDg c = true) (hne : d ≠ []) : Lib.parseIntB 64 d = if 9223372036854775807 < val d then .range else .ok (val d : Int) := by
  cases d with
  | nil => exact absurd rfl hne
  | cons c r =>
    have hc := dg_bounds (hd c (by simp))
    rw [Lib.parseIntB_plain 64 c r (by omega) (by omega)]
    unfold Lib.parseUintB
    rw [if_neg (by simp), show 2 ^ 64 - 1 = 18446744073709551615 by decide, parseM_digits (c :: r) 0 hd (by omega)]
    have hv : valA 0 (c :: r) = val (c :: r) := rfl
    rw [hv]
    generalize val (c :: r) = V
    by_cases h1 : 18446744073709551615 < V
    · rw [if_pos h1, if_pos (by omega)]
      rfl
    · rw [if_neg h1]
      by_cases h2 : 9223372036854775807 < V
      · rw [if_pos h2]
        show (if 2 ^ 63 ≤ V then _ else _) = _
        rw [if_pos (by omega)]
      · rw [if_neg h2]
        show (if 2 ^ 63 ≤ V then _ else _) = _
        rw [if_neg (by omega)]
theorem below_bytesE {w w' : World} (h : w' = w ∨ ∃ t, w' = Lib.bytesWorld w 5 t) : Below w.heap.size w w' := by
  rcases h with rfl | ⟨t, rfl⟩
  · exact Below.refl _ _
  · exact below_bytesW _ _ _
set_option maxHeartbeats 1000000 in
set_option maxRecDepth 100000 in
theorem snumber_any {a : Addr} {w : World} {b : Nat} {s : ByteArray} {p : Nat} (h : Sc w b s p) (hL : LibW a w) (hs : s.size ≤ 10000) (hp : p < s.size) (hl : isDg s[p] = true) : Calls Tryd.prog 21 #[.pointer (some ⟨b, 0, none⟩)] w fun e w' => NuTo w b s p (nmS (rest s p)) e w' := by
  have ht := take_dg h hs
  have hpos : 1 ≤ ((rest s p).takeWhile isDg).length := by rw [rest_at s hp]; exact dg_pos hl
  have hlist := ext_tw s p isDg
  have hmem : ∀ c ∈ (rest s p).takeWhile isDg, isDg c = true := fun c hc => tw_mem _ c hc
  have hle := tw_le s isDg h.le
  have hdrop : (rest s p).dropWhile isDg = rest s (p + ((rest s p).takeWhile isDg).length) := by
    rw [← rest_add]
    have : ∀ l : List UInt8, l.dropWhile isDg = l.drop (l.takeWhile isDg).length := fun l => by
      induction l with
      | nil => rfl
      | cons a l ih =>
        rw [List.takeWhile_cons, List.dropWhile_cons]
        split
        · simpa using ih
        · rfl
    exact this _
  obtain ⟨o, ho⟩ : ∃ o, o = nmS (rest s p) := ⟨_, rfl⟩
  rw [← ho]
  unfold nmS at ho
  rw [hdrop] at ho
  have hT : ∀ e w', TkP w b s p isDg e w' → ∃ (x : ByteArray) (n : Nat), x.data.toList = (rest s p).takeWhile isDg ∧ x.size = n ∧ n = ((rest s p).takeWhile isDg).length ∧ e = .returned (.string x) ∧ Sc w' b s (p + n) ∧ Fr w w' (fun i => i = b) := fun e w' ⟨h1, h2, h3⟩ => ⟨_, _, hlist, by rw [size_of_list, hlist], rfl, h1, h2, h3⟩
  have HLS := Go.Proofs.YtifnmclidabkfaaDoor.Hid.mk' (And.intro hL h)
  generalize (rest s p).takeWhile isDg = L at *
  clear hlist h hl hp hL hdrop
  have HOO := Go.Proofs.YtifnmclidabkfaaDoor.Hid.mk' ho
  clear ho
  go_enter Tryd.func21, Tryd.ntmps21
  go_wp2_with fail
  refine ht.mono ?_
  intro e w1 hTk
  obtain ⟨x, n, hx, hxn, hn, rfl, hS, hF⟩ := hT e w1 hTk
  clear ht hT hTk
  have hL1 := HLS.out.1.keepS HLS.out.2 hF
  have HS := Go.Proofs.YtifnmclidabkfaaDoor.Hid.mk' hS
  have HF := Go.Proofs.YtifnmclidabkfaaDoor.Hid.mk' hF
  have hpd := parse_digits hmem (by intro e; rw [e] at hpos; simp at hpos)
  rw [← hx] at hpd
  have hx10 : x.size ≤ 10000 := by omega
  rw [hx] at hpd
  clear HLS hS hF
  by_cases hv : 9223372036854775807 < val L
  · rw [if_pos hv, ← hx] at hpd
    have hpi := Tryd.strconv_ParseInt_10_at64_range_var x (by omega) hpd _ _ w1 hL1.err
    have HGO : Hid (∀ w', Below w1.heap.size w1 w' → NuTo w b s p o (.returned (.tuple #[.int .i64 0, .string ⟨#[50, 50, 48, 48, 51]⟩])) w') := fun w' hb => .no 2 (by rw [HOO.out, if_pos hv]) rfl _ (HS.out.keepB hb) (HF.out.trans (Fr.of_below (F := fun _ => False) hb) (fun i hi => hi.elim))
    generalize Lib.intSat 64 x.data.toList = V at *
    clear hpd hmem hle hpos hx hn hv HOO HS HF hL1 hxn hx10
    go_wp2_with fail
    refine hpi.mono ?_
    rintro e w2 ⟨N, rfl, _, _, hb2⟩
    clear hpi
    go_wp2_with fail
    go_ret2
    exact HGO.out _ hb2
  · rw [if_neg hv] at hpd
    have hpd : Lib.parseIntB 64 x.data.toList = .ok (val L : Int) := by rw [hx]; exact hpd
    have hpi := Tryd.strconv_ParseInt_10_at64_ok x (by omega) _ hpd w1
    have hS1 : Sc w1 b s (p + n) := HS.out
    by_cases hend : p + n = s.size
    · have HGO : Hid (∀ w', Below w1.heap.size w1 w' → NuTo w b s p o (.returned (.tuple #[.int .i64 (val L : Int), .string ⟨#[48, 48, 48, 48, 48]⟩])) w') := fun w' hb => by
        have e0 := HOO.out
        rw [if_neg hv, ← hn, rest_end s (by omega), if_neg (by simp)] at e0
        exact .tk _ _ _ _ e0 rfl rfl (HS.out.keepB hb) (HF.out.trans (Fr.of_below (F := fun _ => False) hb) (fun i hi => hi.elim))
      generalize (val L : Int) = V at *
      clear hpd hmem hle hpos hx hn hv HOO HS HF hL1 hxn hx10
      go_wp2_with fail
      refine hpi.mono ?_
      rintro e w2 ⟨rfl, hw2⟩
      have hb2 := below_bytesE hw2
      clear hpi hw2
      have hat : ∀ d os, Calls Tryd.prog 10 #[.pointer (some ⟨b, 0, none⟩)] (Go.Sort.grow (redrawn w2 d) os) fun e w' => e = .returned (.bool true) ∧ Below (Go.Sort.grow (redrawn w2 d) os).heap.size (Go.Sort.grow (redrawn w2 d) os) w' := fun d os => by
        have := atEnd_any ((hS1.keepB hb2).keepB (below_regrown w2 d os)) hs
        rw [decide_eq_true hend] at this
        exact this
      clear hS1 hend
      go_wp2_with fail
      refine wp_region_quiet_below (by kernel_rfl) (by kernel_rfl) ?_
      repeat (go_big_quiet_step (with_reducible exact Calls.regrown_of (hat _ _)))
      refine wpQuiet_nil ?_
      intro _ hw'
      obtain ⟨⟨dq, osq⟩, hw''⟩ := hw'
      subst hw''
      have hb3 := hb2.trans ((below_regrown w2 dq osq).mono hb2.size)
      clear hat hb2
      generalize Go.Sort.grow (redrawn w2 dq) osq = wz at *
      go_wp2_with fail
      go_ret2
      exact HGO.out _ hb3
    · have hlt : p + n < s.size := by omega
      have tl : ((p + n : Nat) : Int) < (s.size : Int) := by omega
      have hle1 := isLetter_any (s[p + n].toNat : Int)
      rw [ltI_of] at hle1
      have HGO : Hid (∀ w', Below w1.heap.size w1 w' → NuTo w b s p o (if isLt s[p + n] then .returned (.tuple #[.int .i64 0, .string ⟨#[52, 50, 54, 48, 49]⟩]) else .returned (.tuple #[.int .i64 (val L : Int), .string ⟨#[48, 48, 48, 48, 48]⟩])) w') := fun w' hb => by
        have e0 := HOO.out
        rw [if_neg hv, ← hn, rest_at s hlt] at e0
        cases hi : isLt s[p + n] with
        | true =>
          rw [if_pos (by simpa using hi)] at e0
          exact .no 1 e0 rfl _ (HS.out.keepB hb) (HF.out.trans (Fr.of_below (F := fun _ => False) hb) (fun i hi => hi.elim))
        | false =>
          rw [if_neg (by simp [hi])] at e0
          exact .tk _ _ _ _ e0 rfl rfl (HS.out.keepB hb) (HF.out.trans (Fr.of_below (F := fun _ => False) hb) (fun i hi => hi.elim))
      generalize hV : (val L : Int) = V at *
      generalize hLT : isLt s[p + n] = lt at *
      clear hpd hmem hle hpos hx hn hv HOO HS HF hL1 hxn hx10 hV hLT
      generalize p + n = q at *
      go_wp2_with fail
      refine hpi.mono ?_
      rintro e w2 ⟨rfl, hw2⟩
      have hb2 := below_bytesE hw2
      clear hpi hw2
      have hat : ∀ d os, Calls Tryd.prog 10 #[.pointer (some ⟨b, 0, none⟩)] (Go.Sort.grow (redrawn w2 d) os) fun e w' => e = .returned (.bool false) ∧ Below (Go.Sort.grow (redrawn w2 d) os).heap.size (Go.Sort.grow (redrawn w2 d) os) w' := fun d os => by
        have := atEnd_any ((hS1.keepB hb2).keepB (below_regrown w2 d os)) hs
        rw [decide_eq_false hend] at this
        exact this
      have hlb : ∀ W, Calls Tryd.prog 18 #[.int .u8 s[q].toNat] W fun e w' => e = .returned (.bool lt) ∧ Below W.heap.size W w' := fun W => (hle1 W).mono fun e w' ⟨he, hw⟩ => ⟨he, by rw [hw]; exact Below.refl _ _⟩
      have c0 := fun (d : Nat) (os : Array Obj) => (hS1.keepB hb2).keepB (below_regrown w2 d os) |>.c0
      have c1 := fun (d : Nat) (os : Array Obj) => (hS1.keepB hb2).keepB (below_regrown w2 d os) |>.c1
      clear hS1 hend hle1
      go_wp2_with fail
      refine wp_region_quiet_below (by kernel_rfl) (by kernel_rfl) ?_
      repeat (go_big_quiet_step (first | (with_reducible exact Calls.regrown_of (hat _ _)) | (exact Calls.regrown_of (hlb _))))
      refine wpQuiet_nil ?_
      intro _ hw'
      obtain ⟨⟨dq, osq⟩, hw''⟩ := hw'
      subst hw''
      have hb3 := hb2.trans ((below_regrown w2 dq osq).mono hb2.size)
      clear hat hb2 c0 c1 hlb
      generalize Go.Sort.grow (redrawn w2 dq) osq = wz at *
      have HG := Go.Proofs.YtifnmclidabkfaaDoor.Hid.mk' (HGO.out _ hb3)
      clear HGO
      cases lt with
      | true =>
        go_wp2_with fail
        go_ret2
        exact HG.out
      | false =>
        go_wp2_with fail
        go_ret2
        exact HG.out
end Go.Proofs.YtifnmclidabkfaaDoor
