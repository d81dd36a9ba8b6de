/- Tokens written anew, loosely: great letters, noughts, blanks and comments between (pure). -/
import Derived.Test.YtbkeaajnhalekaaGreatDoorP14MP
import Derived.Test.YtbkeaajnhalekaaGreatDoorP14NM
namespace Go.Proofs.YtbkeaajnhalekaaGreatDoor
set_option linter.unusedVariables false
set_option linter.unusedSimpArgs false

/-- A letter made great. -/
def grc (odd : Bool) (i : Nat) (c : UInt8) : UInt8 := if decide (97 ≤ c) && decide (c ≤ 122) && (decide (i % 2 = 0) == odd) then c - 32 else c
def grF (odd : Bool) : Nat → List UInt8 → List UInt8
  | _, [] => []
  | i, c :: q => grc odd i c :: grF odd (i + 1) q
theorem grc_ok (odd : Bool) (i : Nat) (c : UInt8) : (isWd c = true → isWd (grc odd i c) = true) ∧ (isLt c = true → isLt (grc odd i c) = true) ∧ lowc (grc odd i c) = lowc c := by
  have : ∀ n : Fin 256, ∀ b : Bool, let c := UInt8.ofNat n.val; let g := if decide (97 ≤ c) && decide (c ≤ 122) && b then c - 32 else c; (isWd c = true → isWd g = true) ∧ (isLt c = true → isLt g = true) ∧ lowc g = lowc c := by decide +kernel
  have h2 := this ⟨c.toNat, c.toNat_lt⟩ (decide (i % 2 = 0) == odd)
  simp only [UInt8.ofNat_toNat] at h2
  exact h2
theorem grF_len (odd : Bool) : ∀ (s : List UInt8) (i : Nat), (grF odd i s).length = s.length
  | [], _ => rfl
  | c :: q, i => by simp [grF, grF_len odd q]
theorem grF_wd (odd : Bool) : ∀ (s : List UInt8) (i : Nat), (∀ c ∈ s, isWd c = true) → ∀ c ∈ grF odd i s, isWd c = true
  | [], _, _, c, hc => by simp [grF] at hc
  | x :: q, i, h, c, hc => by
    rcases List.mem_cons.1 hc with rfl | hc
    · exact (grc_ok odd i x).1 (h x (by simp))
    · exact grF_wd odd q (i + 1) (fun y hy => h y (by simp [hy])) c hc
theorem grF_low (odd : Bool) : ∀ (s : List UInt8) (i : Nat), (grF odd i s).map lowc = s.map lowc
  | [], _ => rfl
  | x :: q, i => by simp [grF, (grc_ok odd i x).2.2, grF_low odd q (i + 1)]
/-- A token as it may be written. -/
def spL (dg : Int → List UInt8) (odd : Bool) (k : Int) (s : List UInt8) (v : Int) : List UInt8 := if k = 1 then 48 :: 48 :: dg v else if k = 2 then 39 :: (dbl s ++ [39]) else if k = 0 then grF odd 0 s else s
theorem bl_parts {x : UInt8} (h : isBl x = true) : isWd x = false ∧ isDg x = false ∧ isLt x = false ∧ (x == 39) = false ∧ (x == 45) = false ∧ (x = 9 ∨ x = 10 ∨ x = 13 ∨ x = 32) := by
  have : ∀ n : Fin 256, isBl (UInt8.ofNat n.val) = true → (isWd (UInt8.ofNat n.val) = false ∧ isDg (UInt8.ofNat n.val) = false ∧ isLt (UInt8.ofNat n.val) = false ∧ (UInt8.ofNat n.val == 39) = false ∧ (UInt8.ofNat n.val == 45) = false ∧ (UInt8.ofNat n.val = 9 ∨ UInt8.ofNat n.val = 10 ∨ UInt8.ofNat n.val = 13 ∨ UInt8.ofNat n.val = 32)) := by decide +kernel
  have h2 := this ⟨x.toNat, x.toNat_lt⟩
  simp only [UInt8.ofNat_toNat] at h2
  exact h2 h
theorem txN_dblx {x : UInt8} (hx : (x == 39) = false) (b : List UInt8) : ∀ s : List UInt8, txN (dbl s ++ 39 :: x :: b) = some (s, (dbl s).length + 1) := by
  intro s
  induction s with
  | nil => simp [dbl, txN, hx]
  | cons c q ih =>
    simp only [dbl]
    split
    · rename_i hc
      have hc' : c = 39 := by simpa using hc
      simp only [List.cons_append, txN, beq_self_eq_true, if_true]
      rw [ih, hc']
      simp
    · rename_i hc
      rw [List.cons_append, txN.eq_def]
      simp only [hc]
      rw [ih]
      simp
theorem stp_sgx {g : List UInt8} (h : g ∈ signs) {x : UInt8} (hx : isBl x = true) (b : List UInt8) : stp (g ++ x :: b) = .tk 3 g 0 g.length := by
  have hx := (bl_parts hx).2.2.2.2.2
  simp only [signs, List.mem_cons, List.not_mem_nil, or_false] at h
  rcases hx with rfl | rfl | rfl | rfl <;> rcases h with rfl | rfl | rfl | rfl | rfl | rfl | rfl | rfl | rfl | rfl | rfl | rfl | rfl | rfl | rfl | rfl <;> rfl
theorem val_noughts (d : List UInt8) : val (48 :: 48 :: d) = val d := by unfold val; rfl
theorem loose_one {dg : Int → List UInt8} (hdg : Digs dg) (odd : Bool) {k : Int} {s : List UInt8} {v : Int} (h : Good k s v) {x : UInt8} (hx : isBl x = true) (b : List UInt8) : stp (spL dg odd k s v ++ x :: b) = .tk k s v (spL dg odd k s v).length := by
  obtain ⟨x1, x2, x3, x4, x5, _⟩ := bl_parts hx
  obtain ⟨r, n, h⟩ := h
  cases r with
  | nil => simp [stp, blN] at h
  | cons c q =>
    unfold stp at h
    split at h
    · cases h
    · simp only at h
      split at h
      · rename_i hl
        unfold wdS at h
        split at h
        · cases h
        · rename_i hn
          injection h with e1 e2 e3 e4
          subst e1 e3 e4
          unfold spL
          rw [if_neg (by omega), if_neg (by omega), if_pos rfl]
          have hw : ∀ y ∈ (c :: q).takeWhile isWd, isWd y = true := fun y hy => tw_mem _ y hy
          have hd : (c :: q).takeWhile isWd = c :: q.takeWhile isWd := by rw [List.takeWhile_cons, if_pos (by simp [isWd, hl])]
          rw [hd] at hw hn e2
          subst e2
          generalize q.takeWhile isWd = w at *
          have hsw : ∀ y ∈ (c :: w).map lowc, isWd y = true := fun y hy => by
            obtain ⟨z, hz, rfl⟩ := List.mem_map.1 hy
            exact (lowc_wd (hw z hz)).1
          have hgw := grF_wd odd _ 0 hsw
          have hll : (grF odd 0 ((c :: w).map lowc)).map lowc = (c :: w).map lowc := by
            rw [grF_low, List.map_map]
            exact List.map_congr_left (fun y hy => (lowc_wd (hw y hy)).2)
          have hlen : (grF odd 0 ((c :: w).map lowc)).length = (c :: w).length := by rw [grF_len, List.length_map]
          have hfst : ∃ y p, grF odd 0 ((c :: w).map lowc) = y :: p ∧ isLt y = true := ⟨_, _, rfl, (grc_ok odd 0 _).2.1 (lowc_lt hl)⟩
          generalize grF odd 0 ((c :: w).map lowc) = G at *
          generalize (c :: w).map lowc = S at *
          obtain ⟨y, p, rfl, hy⟩ := hfst
          obtain ⟨h1, h2, h3, h4⟩ := lt_parts hy
          have ht := (tw_all (y :: p) x b hgw x1).1
          unfold stp
          rw [List.cons_append, blN_no h1 h4, if_neg (by omega)]
          simp only [hy, if_true]
          unfold wdS
          rw [← List.cons_append, ht, if_neg (by rw [hlen]; exact hn), hll]
      · split at h
        · unfold nmS at h
          split at h
          · cases h
          · rename_i hv
            split at h
            · cases h
            · injection h with e1 e2 e3 e4
              subst e1 e2
              have hv0 : (0 : Int) ≤ v := by omega
              have hv1 : v ≤ 9223372036854775807 := by omega
              have hval := hdg.val v hv0 hv1
              have hall : ∀ y ∈ 48 :: 48 :: dg v, isDg y = true := fun y hy => by
                simp only [List.mem_cons] at hy
                rcases hy with rfl | rfl | hy
                · decide
                · decide
                · exact hdg.all v hv0 hv1 y hy
              obtain ⟨t1, t2⟩ := tw_all (48 :: 48 :: dg v) x b hall x2
              unfold spL
              rw [if_pos rfl]
              have hv2 : val (48 :: 48 :: dg v) = v.toNat := by rw [val_noughts, hval]
              generalize dg v = d at *
              have hb0 : blN (48 :: 48 :: d ++ x :: b) = 0 := blN_no (by decide) (by decide)
              unfold stp
              rw [hb0, if_neg (by omega)]
              simp only [List.cons_append]
              rw [if_neg (by decide), if_pos (by decide)]
              unfold nmS
              simp only [List.cons_append] at t1 t2
              rw [t1, t2, hv2, if_neg (by omega)]
              have : (Option.map isLt (x :: b).head?).getD false = false := by simpa using x3
              rw [this]
              simp [Int.toNat_of_nonneg hv0]
        · split at h
          · unfold txS at h
            split at h
            · cases h
            · rename_i b' m hm
              split at h
              · rename_i ha
                split at h
                · cases h
                · rename_i hl
                  injection h with e1 e2 e3 e4
                  subst e1 e2 e3
                  unfold spL
                  rw [if_neg (by omega), if_pos rfl]
                  have hb0 : blN (39 :: (dbl b' ++ [39]) ++ x :: b) = 0 := blN_no (by decide) (by decide)
                  unfold stp
                  rw [hb0, if_neg (by omega)]
                  simp only [List.cons_append, List.append_assoc, List.nil_append]
                  rw [if_neg (by decide), if_neg (by decide), if_pos (by decide)]
                  unfold txS
                  rw [txN_dblx x4]
                  simp only [ha, if_true, if_neg hl]
                  simp
              · cases h
          · unfold sgS at h
            split at h
            · cases h
            · rename_i g hg
              injection h with e1 e2 e3 e4
              subst e1 e2 e3
              unfold spL
              rw [if_neg (by omega), if_neg (by omega), if_neg (by omega)]
              exact stp_sgx (List.mem_of_find?_eq_some hg) hx b
theorem stp_blx {x : UInt8} (hx : isBl x = true) (b : List UInt8) : stp (x :: b) = .bl 1 := by
  have hb : blN (x :: b) = 1 := by unfold blN; simp [hx]
  unfold stp
  rw [hb]
  rfl
/-- The five ways of blanks. -/
def blF : Nat → List UInt8
  | 0 => [32]
  | 1 => [10]
  | 2 => [9, 32]
  | 3 => [32, 45, 45, 120, 32, 121, 10]
  | _ => [32, 13, 10, 32]
theorem blF_head (j : Nat) : ∃ x p, blF j = x :: p ∧ isBl x = true := by
  match j with
  | 0 => exact ⟨_, _, rfl, by decide⟩
  | 1 => exact ⟨_, _, rfl, by decide⟩
  | 2 => exact ⟨_, _, rfl, by decide⟩
  | 3 => exact ⟨_, _, rfl, by decide⟩
  | _ + 4 => exact ⟨_, _, rfl, by decide⟩
theorem TK.blx {p : Nat} {x : UInt8} {q : List UInt8} {l : List Tok} (hx : isBl x = true) (h : TK (p + 1) q l) : TK p (x :: q) l := TK.bl (n := 1) (stp_blx hx q) rfl h
theorem TK.blF {p : Nat} (j : Nat) {q : List UInt8} {l : List Tok} (h : TK (p + (Go.Proofs.YtbkeaajnhalekaaGreatDoor.blF j).length) q l) : TK p (Go.Proofs.YtbkeaajnhalekaaGreatDoor.blF j ++ q) l := by
  match j, h with
  | 0, h => exact TK.blx (by decide) h
  | 1, h => exact TK.blx (by decide) h
  | 2, h => exact TK.blx (by decide) (TK.blx (by decide) h)
  | 3, h => exact TK.blx (by decide) (TK.bl (n := 5) (q := 10 :: q) (by rfl) (by rfl) (TK.blx (by decide) h))
  | _ + 4, h => exact TK.blx (by decide) (TK.blx (by decide) (TK.blx (by decide) (TK.blx (by decide) h)))
/-- All tokens, each with blanks behind it. -/
def loL (dg : Int → List UInt8) (odd : Bool) (bl : Nat → Nat) : Nat → List Tok → List UInt8
  | _, [] => []
  | i, t :: l => spL dg odd t.k t.s t.n ++ (blF (bl i) ++ loL dg odd bl (i + 1) l)
theorem loL_tk {dg : Int → List UInt8} (hdg : Digs dg) (odd : Bool) (bl : Nat → Nat) (T : List UInt8) (lT : Nat → List Tok) (eT : List Tok) (hT : ∀ q, TK q T (lT q)) (hE : ∀ q, (lT q).map Tok.st = eT) : ∀ (l : List Tok) (i p : Nat), (∀ t ∈ l, Good t.k t.s t.n) → ∃ l', TK p (loL dg odd bl i l ++ T) l' ∧ l'.map Tok.st = l.map Tok.st ++ eT
  | [], i, p, _ => ⟨lT p, hT p, hE p⟩
  | t :: l, i, p, hg => by
    obtain ⟨x, c, hb, hx⟩ := blF_head (bl i)
    obtain ⟨l', h1, h2⟩ := loL_tk hdg odd bl T lT eT hT hE l (i + 1) (p + (spL dg odd t.k t.s t.n).length + (blF (bl i)).length) (fun y hy => hg y (by simp [hy]))
    have hs := loose_one hdg odd (hg t (by simp)) hx (c ++ (loL dg odd bl (i + 1) l ++ T))
    refine ⟨⟨t.k, t.s, t.n, p⟩ :: l', ?_, ?_⟩
    · show TK p ((spL dg odd t.k t.s t.n ++ (blF (bl i) ++ loL dg odd bl (i + 1) l)) ++ T) _
      rw [List.append_assoc, List.append_assoc]
      refine TK.tk (q := blF (bl i) ++ (loL dg odd bl (i + 1) l ++ T)) ?_ ?_ (TK.blF (bl i) h1)
      · rw [hb, List.cons_append]; exact hs
      · exact List.drop_left
    · simp only [List.map_cons, List.cons_append, h2, List.cons.injEq, and_true]
      rfl
theorem tk_semi (q : Nat) : TK q [59, 32] [⟨3, [59], 0, q⟩] := TK.tk (n := 1) (q := [32]) (by rfl) (by rfl) (TK.blx (by decide) (TK.nil _))
/-- ParseLoose's law: the text written anew comes to the same. -/
theorem loose_pr {dg : Int → List UInt8} (hdg : Digs dg) (odd : Bool) (bl : Nat → Nat) {s : List UInt8} {l : List Tok} (hs : scF s = .ok l) (semi : Bool) (hsemi : semi = true → l ≠ [] ∧ NoEnd l ∧ l.length < 600) (T : List UInt8) (hT : T = if semi then [59, 32] else []) (hlen : (loL dg odd bl 0 l ++ T).length ≤ 2000) : prF (loL dg odd bl 0 l ++ T) = prF s := by
  obtain ⟨h2, htk, h6⟩ := scF_ok.1 hs
  have hg := tkN_good _ _ _ _ htk
  cases semi with
  | false =>
    subst hT
    obtain ⟨l', h1, he⟩ := loL_tk hdg odd bl [] (fun _ => []) [] (fun q => TK.nil q) (fun _ => rfl) l 0 0 hg
    have hsm : Sm exN l l' := ⟨he, trivial⟩
    have hl := hsm.len
    exact pr_same (Or.inl rfl) hs (TK.scF h1 hlen (by rw [hl]; exact h6)) hsm
  | true =>
    subst hT
    obtain ⟨hne, hno, hlt⟩ := hsemi rfl
    obtain ⟨l', h1, he⟩ := loL_tk hdg odd bl [59, 32] (fun q => [⟨3, [59], 0, q⟩]) [⟨3, [59], 0, 0⟩] tk_semi (fun _ => rfl) l 0 0 hg
    have hsm : Sm exE l l' := ⟨he, hno⟩
    have hl := hsm.len
    exact pr_same (Or.inr rfl) hs (TK.scF h1 hlen (by rw [hl]; show l.length + 1 ≤ 600; omega)) hsm
end Go.Proofs.YtbkeaajnhalekaaGreatDoor
