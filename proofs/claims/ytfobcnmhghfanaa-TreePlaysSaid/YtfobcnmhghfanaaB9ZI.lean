/- Three trees; which of n; a ghost comes back as new. -/
import Derived.Test.YtfobcnmhghfanaaB9ZH
namespace Go.Proofs.Ytfobcnmhghfanaa
open Go.RowKit Go.Shelf
set_option linter.unusedVariables false
set_option linter.unusedSimpArgs false

theorem pick_val {c : Int} {n : Nat} (hc : c < 0) (hn : 0 < n) : -((c + 1).tmod n) = (-(c + 1)) % (n : Int) := by
  rw [← Int.neg_tmod, Int.tmod_eq_emod_of_nonneg (by omega)]
/-- Which of n things a raw number speaks of. -/
def pickN (c : Int) (n : Nat) : Nat := ((if c < 0 then -(c + 1) else c) % (n : Int)).toNat
theorem pickN_lt (c : Int) (n : Nat) (hn : 0 < n) : pickN c n < n := by
  unfold pickN
  have h3 := Int.emod_nonneg (if c < 0 then -(c + 1) else c) (b := (n : Int)) (by omega)
  have h4 := Int.emod_lt_of_pos (if c < 0 then -(c + 1) else c) (b := (n : Int)) (by omega)
  omega
set_option maxHeartbeats 400000 in
theorem pick9 (c : Int) (n : Nat) (w : World) (h1 : -9223372036854775808 ≤ c ∧ c ≤ 9223372036854775807) (hn : 0 < n) (hn2 : n ≤ 1000000) :
    Calls Try.prog 18 #[.int .i64 c, .int .i64 n] w fun e w' => e = .returned (.int .i64 (pickN c n)) ∧ w' = w := by
  have hnz : ¬ ((n : Int) = 0) := by omega
  unfold pickN
  by_cases h : c < 0
  · rw [if_pos h]
    have h3 := Int.emod_nonneg (-(c + 1)) (b := (n : Int)) hnz
    have h5 := pick_val h hn
    have e : (((-(c + 1)) % (n : Int)).toNat : Int) = (-(c + 1)) % (n : Int) := by omega
    rw [e]
    go_enter Try.func18, Try.ntmps18
    go_wp2
    go_ret
    refine ⟨?_, rfl⟩
    show Ending.returned (.int .i64 _) = _
    congr 2
    first
      | done
      | exact h5
      | (rw [Int.tmod_eq_emod_of_nonneg (by omega)]; done)
      | (rw [Int.tmod_eq_emod_of_nonneg (by omega)]; omega)
      | omega
  · rw [if_neg h]
    have h3 := Int.emod_nonneg c (b := (n : Int)) hnz
    have e : ((c % (n : Int)).toNat : Int) = c % (n : Int) := by omega
    rw [e]
    go_enter Try.func18, Try.ntmps18
    go_wp2
    go_ret
    refine ⟨?_, rfl⟩
    show Ending.returned (.int .i64 _) = _
    congr 2
    first
      | done
      | (rw [Int.tmod_eq_emod_of_nonneg (by omega)]; done)
      | omega
/-- Three trees. -/
def T3 (w0 w : World) (a b c : Value) (La Lb Lc : List E) : Prop := ∃ ra rb rc, TB w0 w ra a La ∧ TB w0 w rb b Lb ∧ TB w0 w rc c Lc ∧ Dis ra rb ∧ Dis ra rc ∧ Dis rb rc
theorem T3.below {w0 w w' : World} {a b c : Value} {La Lb Lc : List E} (h : T3 w0 w a b c La Lb Lc) (hb : Below w.heap.size w w') : T3 w0 w' a b c La Lb Lc := by
  obtain ⟨ra, rb, rc, h1, h2, h3, h4⟩ := h
  exact ⟨ra, rb, rc, h1.below hb, h2.below hb, h3.below hb, h4⟩
theorem T3.bl {w0 w : World} {a b c : Value} {La Lb Lc : List E} (h : T3 w0 w a b c La Lb Lc) : Below w0.heap.size w0 w := by
  obtain ⟨ra, rb, rc, h1, h2, h3⟩ := h
  exact h1.bl
theorem T3.rot {w0 w : World} {a b c : Value} {La Lb Lc : List E} (h : T3 w0 w a b c La Lb Lc) : T3 w0 w b c a Lb Lc La := by
  obtain ⟨ra, rb, rc, h1, h2, h3, h4, h5, h6⟩ := h
  exact ⟨rb, rc, ra, h2, h3, h1, h6, h4.symm, h5.symm⟩
theorem T3.line {w0 w : World} {a b c : Value} {La Lb Lc : List E} (h : T3 w0 w a b c La Lb Lc) : Line La := by
  obtain ⟨ra, rb, rc, h1, h2, h3⟩ := h
  exact h1.tr.line
theorem T3.put {w0 w w' : World} {ra ra' rb rc : Ro} {a b c : Value} {La' Lb Lc : List E} (h2 : TB w0 w rb b Lb) (h3 : TB w0 w rc c Lc) (h4 : Dis ra rb) (h5 : Dis ra rc) (h6 : Dis rb rc) (ht : TB w0 w' ra' a La') (hto : TTo w ra w' ra') : T3 w0 w' a b c La' Lb Lc := by
  obtain ⟨k1, k2⟩ := h2.side h4 hto ht.bl
  obtain ⟨k3, k4⟩ := h3.side h5 hto ht.bl
  exact ⟨ra', rb, rc, ht, k1, k3, k2, k4, h6⟩
theorem T3.insA {w0 w : World} {a b c : Value} {La Lb Lc : List E} (h : T3 w0 w a b c La Lb Lc) (hlen : La.length ≤ 900000) (key : ByteArray) (n : Int) : Calls Try.prog 14 #[a, .string key, .int .i64 n] w fun e w' => e = .returned (.int .i64 (insO La key n).1) ∧ T3 w0 w' a b c (insO La key n).2 Lb Lc := by
  obtain ⟨ra, rb, rc, h1, h2, h3, h4, h5, h6⟩ := h
  refine (h1.ins hlen key n).mono ?_
  rintro e w' ⟨ro', he, ht, hto⟩
  exact ⟨he, T3.put h2 h3 h4 h5 h6 ht hto⟩
theorem T3.ghoA {w0 w : World} {a b c : Value} {La Lb Lc : List E} (h : T3 w0 w a b c La Lb Lc) (hlen : La.length ≤ 900000) (key : ByteArray) : Calls Try.prog 15 #[a, .string key] w fun e w' => e = .returned (.int .i64 (ghostO La key).1) ∧ T3 w0 w' a b c (ghostO La key).2 Lb Lc := by
  obtain ⟨ra, rb, rc, h1, h2, h3, h4, h5, h6⟩ := h
  refine (h1.gho hlen key).mono ?_
  rintro e w' ⟨ro', he, ht, hto⟩
  exact ⟨he, T3.put h2 h3 h4 h5 h6 ht hto⟩
theorem T3.purA {w0 w : World} {a b c : Value} {La Lb Lc : List E} (h : T3 w0 w a b c La Lb Lc) (hlen : La.length ≤ 900000) (key : ByteArray) : Calls Try.prog 16 #[a, .string key] w fun e w' => e = .returned (.int .i64 (purgeO La key).1) ∧ T3 w0 w' a b c (purgeO La key).2 Lb Lc := by
  obtain ⟨ra, rb, rc, h1, h2, h3, h4, h5, h6⟩ := h
  refine (h1.pur hlen key).mono ?_
  rintro e w' ⟨ro', he, ht, hto⟩
  exact ⟨he, T3.put h2 h3 h4 h5 h6 ht hto⟩
theorem T3.nextA {w0 w : World} {a b c : Value} {La Lb Lc : List E} (h : T3 w0 w a b c La Lb Lc) (key : ByteArray) (is : Bool) : Calls Try.prog 19 #[a, .string key, .bool is] w fun e w' => e = .returned (nextV (nextL La key is)) ∧ T3 w0 w' a b c La Lb Lc := by
  have H := h
  obtain ⟨ra, rb, rc, h1, h2, h3, h4, h5, h6⟩ := h
  refine (tnext_any h1.tr key is).mono ?_
  rintro e w' ⟨he, hb⟩
  exact ⟨he, H.below hb⟩
theorem T3.getA {w0 w : World} {a b c : Value} {La Lb Lc : List E} (h : T3 w0 w a b c La Lb Lc) (key : ByteArray) : Calls Try.prog 20 #[a, .string key] w fun e w' => e = .returned (getV (getL La key)) ∧ T3 w0 w' a b c La Lb Lc := by
  have H := h
  obtain ⟨ra, rb, rc, h1, h2, h3, h4, h5, h6⟩ := h
  refine (tget_any h1.tr key).mono ?_
  rintro e w' ⟨he, hb⟩
  exact ⟨he, H.below hb⟩
theorem T3.wellA {w0 w : World} {a b c : Value} {La Lb Lc : List E} (h : T3 w0 w a b c La Lb Lc) (hlen : La.length ≤ 900000) : Calls Try.prog 13 #[a] w fun e w' => e = .returned (.bool true) ∧ T3 w0 w' a b c La Lb Lc := by
  have H := h
  obtain ⟨ra, rb, rc, h1, h2, h3, h4, h5, h6⟩ := h
  refine (twell_any h1.tr hlen).mono ?_
  rintro e w' ⟨he, hb⟩
  exact ⟨he, H.below hb⟩
theorem t3_new {w0 w : World} {a b : Value} {La Lb : List E} (h : T2 w0 w a b La Lb) : Calls Try.prog 8 #[] w fun e w' => ∃ c, e = .returned (pt c) ∧ T3 w0 w' a b (pt c) La Lb [] := by
  obtain ⟨ra, rb, h1, h2, h3⟩ := h
  refine (tb_new w0 w h1.bl).mono ?_
  rintro e w' ⟨ro, c, he, ht, hb, hn⟩
  refine ⟨c, he, ra, rb, ro, h1.below hb, h2.below hb, ht, h3, fun k hk => ?_, fun k hk => ?_⟩
  · exact Classical.byContradiction fun hx => by
      have h3 := hn k hx
      have h4 := (h1.tr.lo k hk).2
      omega
  · exact Classical.byContradiction fun hx => by
      have h3 := hn k hx
      have h4 := (h2.tr.lo k hk).2
      omega
/-- No ghost among them. -/
def NoG (L : List E) : Prop := ∀ e ∈ L, e.ghost = false
theorem NoG.ins {L : List E} (h : NoG L) (key : ByteArray) (n : Int) : NoG (insO L key n).2 := by
  unfold insO
  split
  · exact h
  · split
    · rename_i hg
      intro e he
      rcases (mem_addL (e := ⟨key, n, false⟩) hg e).1 he with rfl | he
      · rfl
      · exact h e he
    · rename_i e0 hg
      rw [h e0 (getL_mem hg).1]
      exact h
theorem next_set (L : List E) (x : E) (key : ByteArray) (is : Bool) : nextL (setL L x) key is = (nextL L key is).map (fun e => if e.key = x.key then x else e) := by
  unfold nextL setL
  rw [List.find?_map]
  congr 1
  congr 1
  funext e
  show nextP key is (if e.key = x.key then x else e) = nextP key is e
  split
  · rename_i h; unfold nextP; rw [h]
  · rfl
theorem get_set (L : List E) (x : E) (key : ByteArray) : getL (setL L x) key = (getL L key).map (fun e => if e.key = x.key then x else e) := by
  unfold getL setL
  rw [List.find?_map]
  congr 1
  congr 1
  funext e
  show decide ((if e.key = x.key then x else e).key = key) = decide (e.key = key)
  split
  · rename_i h; rw [h]
  · rfl
theorem get_set_same {L : List E} {e x : E} {key : ByteArray} (h : getL L key = some e) (hk : x.key = key) : getL (setL L x) key = some x := by
  rw [get_set, h]
  simp [(getL_mem h).2, hk]
theorem set_set (L : List E) (x y : E) (h : x.key = y.key) : setL (setL L x) y = setL L y := by
  unfold setL
  rw [List.map_map]
  congr 1
  funext e
  simp only [Function.comp]
  by_cases h1 : e.key = x.key
  · rw [if_pos h1, if_pos h, if_pos (h1.trans h)]
  · rw [if_neg h1]
theorem mem_setL {L : List E} {x : E} (hx : getL L x.key ≠ none) (e : E) : e ∈ setL L x ↔ e = x ∨ (e ∈ L ∧ e.key ≠ x.key) := by
  unfold setL
  simp only [List.mem_map]
  constructor
  · rintro ⟨y, hy, rfl⟩
    by_cases h : y.key = x.key
    · rw [if_pos h]; exact Or.inl rfl
    · rw [if_neg h]; exact Or.inr ⟨hy, h⟩
  · rintro (rfl | ⟨h1, h2⟩)
    · cases hg : getL L e.key with
      | none => exact absurd hg hx
      | some y => exact ⟨y, (getL_mem hg).1, by rw [if_pos (getL_mem hg).2]⟩
    · exact ⟨e, h1, by rw [if_neg h2]⟩
theorem line_set {L : List E} (h : Line L) (x : E) : Line (setL L x) := by
  unfold Line setL
  rw [List.pairwise_map]
  refine h.imp (fun {a b} hab => ?_)
  have ea : (if a.key = x.key then x else a).key = a.key := by split <;> simp_all
  have eb : (if b.key = x.key then x else b).key = b.key := by split <;> simp_all
  rw [ea, eb]; exact hab
theorem line_filter {L : List E} (h : Line L) (p : E → Bool) : Line (L.filter p) := List.Pairwise.filter p h
theorem line_add {L : List E} (h : Line L) (x : E) : Line (addL L x) := by
  unfold addL Line
  rw [List.pairwise_append, List.pairwise_cons]
  refine ⟨line_filter h _, ⟨fun b hb => (List.mem_filter.1 hb).2, line_filter h _⟩, fun a ha b hb => ?_⟩
  have h1 := (List.mem_filter.1 ha).2
  rcases List.mem_cons.1 hb with rfl | hb
  · exact h1
  · exact kl_trans h1 (List.mem_filter.1 hb).2
theorem get_del (L : List E) (key : ByteArray) : getL (delL L key) key = none := by
  unfold getL delL
  rw [List.find?_eq_none]
  intro x hx
  have := (List.mem_filter.1 hx).2
  simpa using this
theorem add_del {L : List E} (h : Line L) (x : E) (hx : getL L x.key ≠ none) : addL (delL L x.key) x = setL L x := by
  refine (line_add (line_filter h _) x).ext (line_set h x) (fun e => ?_)
  refine (mem_addL (get_del L x.key) e).trans ?_
  rw [mem_setL hx]
  unfold delL
  simp [List.mem_filter]
theorem del_set (L : List E) (x : E) : delL (setL L x) x.key = delL L x.key := by
  unfold delL setL
  induction L with
  | nil => rfl
  | cons y t ih =>
    rw [List.map_cons, List.filter_cons, List.filter_cons, ih]
    by_cases h : y.key = x.key
    · simp [h]
    · simp [h]
/-- The way of the second tree, and of the third. -/
theorem way_b {L : List E} (hl : Line L) {key : ByteArray} {e : E} (hg : getL L key = some e) (he : e.ghost = false) (hs : key.size ≤ 2000) (n : Int) : ghostO L key = (0, setL L ⟨key, e.num, true⟩) ∧ insO (setL L ⟨key, e.num, true⟩) key n = (0, setL L ⟨key, n, false⟩) ∧ purgeO (setL L ⟨key, e.num, true⟩) key = (0, delL L key) ∧ insO (delL L key) key n = (0, setL L ⟨key, n, false⟩) := by
  have h1 := get_set_same (x := ⟨key, e.num, true⟩) hg rfl
  refine ⟨?_, ?_, ?_, ?_⟩
  · unfold ghostO; rw [hg]; simp [he]
  · unfold insO; rw [if_neg (by omega), h1]; simp only [if_true]; rw [set_set L ⟨key, e.num, true⟩ ⟨key, n, false⟩ rfl]
  · unfold purgeO; rw [h1]; simp only [if_true]; rw [← del_set L ⟨key, e.num, true⟩]
  · unfold insO; rw [if_neg (by omega), get_del]; simp only; rw [add_del hl ⟨key, n, false⟩ (by simp [hg])]
/-- Keys of a tree are not too long. -/
def Short (L : List E) : Prop := ∀ e ∈ L, e.key.size ≤ 2000
theorem Short.ins {L : List E} (h : Short L) (key : ByteArray) (n : Int) : Short (insO L key n).2 := by
  unfold insO
  split
  · exact h
  · split
    · rename_i h2 hg
      intro e he
      rcases (mem_addL (e := ⟨key, n, false⟩) hg e).1 he with rfl | he
      · simp only; omega
      · exact h e he
    · rename_i h2 e0 hg
      split
      · intro e he
        rcases (mem_setL (x := ⟨key, n, false⟩) (by simp [hg]) e).1 he with rfl | ⟨he, _⟩
        · simp only; omega
        · exact h e he
      · exact h
end Go.Proofs.Ytfobcnmhghfanaa
