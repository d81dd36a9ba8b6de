/- One of many keys; a tree beside an op; from key to key. -/
import Derived.Test.YtfobcnmhghfanaaB9ZI
import Derived.Test.YtfobcnmhghfanaaB9Ops
import Derived.Laws.IdiomStrings
namespace Go.Proofs.Ytfobcnmhghfanaa
open Go.RowKit Go.Shelf
set_option linter.unusedVariables false
set_option linter.unusedSimpArgs false

theorem conv2 (w : World) (a b : Int) (ha : 0 ≤ a ∧ a ≤ 255) (hb : 0 ≤ b ∧ b ≤ 255) : (convert 68 9 (.slice (some ⟨w.heap.size, 0, none⟩) 2 2)).run Try.prog (w.alloc (.cells #[.int .u8 a, .int .u8 b] 5)) = .ok (.string ⟨#[UInt8.ofNat a.toNat, UInt8.ofNat b.toNat]⟩) (w.alloc (.cells #[.int .u8 a, .int .u8 b] 5)) := by
  refine run_convert_bytes_back _ 68 9 5 ⟨w.heap.size, 0, none⟩ 2 [UInt8.ofNat a.toNat, UInt8.ofNat b.toNat] Try.underlying68 Try.underlying5 Try.underlying9 (fun j hj => ?_)
  rw [Addr.add_mid, cell_of_row _ _ _ _ _ _ (heap_alloc_new w _)]
  match j, hj with
  | 0, _ => simp [UInt8.toNat_ofNat']; omega
  | 1, _ => simp [UInt8.toNat_ofNat']; omega
set_option maxRecDepth 100000 in
set_option maxHeartbeats 1000000 in
theorem row_any (i : Int) (h0 : 0 ≤ i) (h1 : i ≤ 675) (w : World) : Calls Try.prog 17 #[.int .i64 i] w fun e w' => ∃ s, e = .returned (.string s) ∧ Below w.heap.size w w' := by
  have q1 : i.tdiv 26 = i / 26 := Int.tdiv_eq_ediv_of_nonneg h0
  have q2 : (i / 26).tmod 26 = (i / 26) % 26 := Int.tmod_eq_emod_of_nonneg (by omega)
  have q3 : i.tmod 26 = i % 26 := Int.tmod_eq_emod_of_nonneg h0
  have hc := conv2 w (97 + i / 26 % 26) (97 + i % 26) (by omega) (by omega)
  go_enter Try.func17, Try.ntmps17
  go_wp2
  go_ret
  exact ⟨_, rfl, (Below.refl _ _).alloc (Nat.le_refl _) _⟩
/-- A tree and an op beside it. -/
def PB (w0 w : World) (p : Value) (B : Nat) (x : Op9) (m : Nat) : Prop := ∃ ro L, TB w0 w ro p L ∧ L.length ≤ m ∧ ro B = none ∧ w.heap[B]? = some (.cells (cells9 x).toArray 32 (0, 0))
theorem PB.blk {w0 w : World} {p : Value} {B : Nat} {x : Op9} {m : Nat} (h : PB w0 w p B x m) : w.cell? ⟨B, 0, none⟩ = some (.int .i64 x.kind) ∧ w.cell? ⟨B, 1, none⟩ = some (.int .i64 x.n) ∧ w.cell? ⟨B, 2, none⟩ = some (.string x.key) := by
  obtain ⟨ro, L, _, _, _, hb⟩ := h
  exact ⟨by rw [cell_of_row w B 0 _ _ _ hb]; rfl, by rw [cell_of_row w B 1 _ _ _ hb]; rfl, by rw [cell_of_row w B 2 _ _ _ hb]; rfl⟩
theorem PB.bl {w0 w : World} {p : Value} {B : Nat} {x : Op9} {m : Nat} (h : PB w0 w p B x m) : Below w0.heap.size w0 w := by
  obtain ⟨ro, L, h, _⟩ := h; exact h.bl
theorem PB.below {w0 w w' : World} {p : Value} {B : Nat} {x : Op9} {m : Nat} (h : PB w0 w p B x m) (hb : Below w.heap.size w w') : PB w0 w' p B x m := by
  obtain ⟨ro, L, h1, h2, h3, h4⟩ := h
  exact ⟨ro, L, h1.below hb, h2, h3, (hb.block B (Array.getElem?_eq_some_iff.1 h4).1).trans h4⟩
theorem PB.put {w0 w w' : World} {p : Value} {B : Nat} {x : Op9} {m : Nat} {ro ro' : Ro} {L' : List E} (h3 : ro B = none) (h4 : w.heap[B]? = some (.cells (cells9 x).toArray 32 (0, 0))) (ht : TB w0 w' ro' p L') (hto : TTo w ro w' ro') (hl : L'.length ≤ m) : PB w0 w' p B x m := by
  have hlt := (Array.getElem?_eq_some_iff.1 h4).1
  refine ⟨ro', L', ht, hl, Classical.byContradiction fun hn => ?_, (hto.fr.block B hlt (fun hn => hn h3)).trans h4⟩
  rcases hto.gr B hn with h | h
  · exact h h3
  · omega
theorem PB.ins {w0 w : World} {p : Value} {B : Nat} {x : Op9} {m : Nat} (h : PB w0 w p B x m) (hm : m ≤ 900000) (key : ByteArray) (n : Int) : Calls Try.prog 14 #[p, .string key, .int .i64 n] w fun e w' => ∃ z, e = .returned (.int .i64 z) ∧ PB w0 w' p B x (m + 1) := by
  obtain ⟨ro, L, h1, h2, h3, h4⟩ := h
  refine (h1.ins (by omega) key n).mono ?_
  rintro e w' ⟨ro', he, ht, hto⟩
  exact ⟨_, he, PB.put h3 h4 ht hto (Nat.le_trans (len_ins ..) (by omega))⟩
theorem PB.gho {w0 w : World} {p : Value} {B : Nat} {x : Op9} {m : Nat} (h : PB w0 w p B x m) (hm : m ≤ 900000) (key : ByteArray) : Calls Try.prog 15 #[p, .string key] w fun e w' => ∃ z, e = .returned (.int .i64 z) ∧ PB w0 w' p B x (m + 1) := by
  obtain ⟨ro, L, h1, h2, h3, h4⟩ := h
  refine (h1.gho (by omega) key).mono ?_
  rintro e w' ⟨ro', he, ht, hto⟩
  exact ⟨_, he, PB.put h3 h4 ht hto (by rw [len_gho]; omega)⟩
theorem PB.pur {w0 w : World} {p : Value} {B : Nat} {x : Op9} {m : Nat} (h : PB w0 w p B x m) (hm : m ≤ 900000) (key : ByteArray) : Calls Try.prog 16 #[p, .string key] w fun e w' => ∃ z, e = .returned (.int .i64 z) ∧ PB w0 w' p B x (m + 1) := by
  obtain ⟨ro, L, h1, h2, h3, h4⟩ := h
  refine (h1.pur (by omega) key).mono ?_
  rintro e w' ⟨ro', he, ht, hto⟩
  exact ⟨_, he, PB.put h3 h4 ht hto (Nat.le_trans (len_pur ..) (by omega))⟩
theorem kl_nil (k : ByteArray) : kl ⟨#[]⟩ k = true ∨ k = ⟨#[]⟩ := by
  unfold kl
  obtain ⟨⟨l⟩⟩ := k
  rw [ByteArray.toList_eq, ByteArray.toList_eq]
  cases l with
  | nil => exact Or.inr rfl
  | cons a t => exact Or.inl (by simp [Op.bytesLess])
/-- The key behind which the n-th entry comes. -/
def keyAt (L : List E) : Nat → ByteArray
  | 0 => ⟨#[]⟩
  | n + 1 => match L[n]? with | some e => e.key | none => ⟨#[]⟩
theorem keyAt_succ {L : List E} {n : Nat} (h : n < L.length) : keyAt L (n + 1) = L[n].key := by
  show (match L[n]? with | some e => e.key | none => (⟨#[]⟩ : ByteArray)) = _
  rw [List.getElem?_eq_getElem h]
theorem find_parts {p : E → Bool} {L : List E} {n : Nat} (h : (L.take n).find? p = none) : L.find? p = (L.drop n).find? p := by
  have h2 : (L.take n ++ L.drop n).find? p = (L.drop n).find? p := by rw [List.find?_append, h, Option.none_or]
  rwa [List.take_append_drop] at h2
theorem next_at {L : List E} (hl : Line L) (n : Nat) (hn : n ≤ L.length) : nextL L (keyAt L n) (decide (n = 0)) = L[n]? := by
  unfold nextL
  cases n with
  | zero =>
    cases L with
    | nil => rfl
    | cons e t =>
      have : nextP (keyAt (e :: t) 0) (decide (0 = 0)) e = true := by
        show (kl ⟨#[]⟩ e.key || (decide (0 = 0) && decide (e.key = ⟨#[]⟩))) = true
        rcases kl_nil e.key with h | h
        · rw [h]; rfl
        · rw [h]; simp
      rw [List.find?_cons, this]; rfl
  | succ n =>
    have hn' : n < L.length := by omega
    rw [keyAt_succ hn']
    have hnone : (L.take (n + 1)).find? (nextP L[n].key (decide (n + 1 = 0))) = none := by
      rw [List.find?_eq_none]
      intro y hy
      obtain ⟨i, hi, rfl⟩ := List.getElem_of_mem hy
      rw [List.length_take] at hi
      rw [List.getElem_take]
      have : kl L[n].key (L[i]'(by omega)).key = false := by
        by_cases e : i = n
        · subst e; exact kl_irrefl _
        · exact kl_asymm (List.pairwise_iff_getElem.1 hl i n (by omega) hn' (by omega))
      simp [nextP, this]
    rw [find_parts hnone]
    by_cases hlt : n + 1 < L.length
    · rw [List.drop_eq_getElem_cons hlt, List.find?_cons]
      have : nextP L[n].key (decide (n + 1 = 0)) L[n + 1] = true := by
        unfold nextP
        rw [List.pairwise_iff_getElem.1 hl n (n + 1) hn' hlt (by omega)]; rfl
      rw [this, List.getElem?_eq_getElem hlt]
    · rw [List.drop_eq_nil_of_le (by omega), List.getElem?_eq_none (by omega)]; rfl
theorem get_of_mem {L : List E} (hl : Line L) {e : E} (h : e ∈ L) : getL L e.key = some e := by
  cases hg : getL L e.key with
  | none => exact absurd rfl (getL_none hg e h)
  | some y =>
    obtain ⟨h1, h2⟩ := getL_mem hg
    obtain ⟨i, hi, rfl⟩ := List.getElem_of_mem h
    obtain ⟨j, hj, rfl⟩ := List.getElem_of_mem h1
    by_cases e : j = i
    · subst e; rfl
    · exact absurd h2 (hl.ne hj hi e)
theorem keyAt_lt {L : List E} (hl : Line L) {n : Nat} (h0 : n ≠ 0) (hn : n < L.length) : kl (keyAt L n) L[n].key = true := by
  cases n with
  | zero => exact absurd rfl h0
  | succ n =>
    rw [keyAt_succ (by omega)]
    exact List.pairwise_iff_getElem.1 hl n (n + 1) (by omega) hn (by omega)
theorem live_ghost (L : List E) : liveN L + ghostN L = L.length := by
  unfold liveN ghostN
  induction L with
  | nil => rfl
  | cons e t ih =>
    rw [List.countP_cons, List.countP_cons, List.length_cons]
    cases e.ghost <;> simp <;> omega
end Go.Proofs.Ytfobcnmhghfanaa
