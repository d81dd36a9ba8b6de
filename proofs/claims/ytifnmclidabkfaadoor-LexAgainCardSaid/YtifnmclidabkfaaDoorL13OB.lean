/- Bytes that a call made: appends, and what they say as a text. -/
import Derived.Test.YtifnmclidabkfaaDoorL13G
import Derived.Lib.Strings
import Derived.Lib.AppendStr
namespace Go.Proofs.YtifnmclidabkfaaDoor
open Go.RowKit
set_option linter.unusedVariables false
set_option linter.unusedSimpArgs false

def bv (c : UInt8) : Value := .int .u8 c.toNat
theorem one_bv (ys : List UInt8) : ∀ u ∈ ys.map bv, u.oneCell' = true := by
  intro u hu
  obtain ⟨c, _, rfl⟩ := List.mem_map.1 hu
  rfl
theorem infoB : (Tryd.prog.info? 5).map (fun i => (i.zero, i.size, i.bytes)) = some (some (.int .u8 0), 1, 1) := by kernel_rfl
/-- A slice of bytes that the call made. -/
def OwnB (base : Nat) (w : World) (v : Value) (xs : List UInt8) : Prop := w.ownsRow base 5 1 v xs.length (xs.map bv)
theorem OwnB.alloc {base : Nat} {w : World} {v : Value} {xs : List UInt8} (h : OwnB base w v xs) (o : Obj) : OwnB base (w.alloc o) v xs := World.ownsRow.alloc h o
theorem OwnB.nil_ (base : Nat) (w : World) : OwnB base w (.slice none 0 0) [] := ⟨by simp, Or.inl ⟨rfl, rfl⟩⟩
theorem own_ge {base : Nat} {w : World} {v : Value} {xs : List UInt8} (h : OwnB base w v xs) : ∀ k, v.ownBlock = some k → base ≤ k := fun k hk => (World.ownsRow.lt h k hk).1
theorem OwnB.keepF {base : Nat} {w w' : World} {v : Value} {xs : List UInt8} {F : Nat → Prop} (h : OwnB base w v xs) (hf : Fr w w' F) (hF : ∀ i, F i → i < base) : OwnB base w' v xs :=
  own_of_block h (fun c hc => hf.block c (World.ownsRow.lt h c hc).2 (fun e => by have := (World.ownsRow.lt h c hc).1; have := hF c e; omega))
theorem OwnB.form {base : Nat} {w : World} {v : Value} {xs : List UInt8} (h : OwnB base w v xs) : ∃ ao cap, v = .slice ao xs.length cap := by
  rcases id h with ⟨_, ⟨hv, hn⟩ | ⟨g, cap, cur, hv, _⟩⟩
  · exact ⟨none, 0, by rw [hv, hn]⟩
  · exact ⟨_, cap, hv⟩
/-- append, to bytes that the call made, of a text. -/
theorem wp_appS (w : World) {ops : Array Oper} {rest : List Oper} {o : Oper} {a : Act} {Q : Exit → Act → World → Prop} (hgd : o.guard = none) (s x : Operand)
    (ho : o.op = .call { callee := .builtin .append, args := #[s, x], argTypes := #[47, 9] })
    (base : Nat) (v : Value) (xs : List UInt8) (hs : a.eval s = v) (hown : OwnB base w v xs)
    (t : ByteArray) (hx : a.eval x = .string t) (hl : xs.length + t.size ≤ 140737488355328) (hbase : base ≤ w.heap.size)
    (h : ∀ v' w', OwnB base w' v' (xs ++ t.data.toList) → Below base w w' → wpList Tryd.prog ops Q rest (a.put o.dst v') w') : wpList Tryd.prog ops Q (o :: rest) a w := by
  obtain ⟨i0, hi, hz0, hz1, hz2⟩ := info_parts infoB
  refine Lib.wpList_append_own_string w hgd s x 47 9 ho base 5 i0 Tryd.underlying47 Tryd.underlying9 hi hz0 hz1 hz2 v xs.length (xs.map bv) hs hown t hx (by unfold maxLen; omega) hl hbase ?_
  intro v' w' h1 h2 _
  refine h v' w' ?_ ((Below.refl _ _).grown h2 hbase (own_ge hown))
  unfold OwnB
  rw [List.length_append, List.map_append, show t.data.toList.length = t.size by simp]
  exact h1
/-- append, to bytes that the call made, of one byte. -/
theorem wp_app1 (w : World) {ops : Array Oper} {rest : List Oper} {o : Oper} {a : Act} {Q : Exit → Act → World → Prop} (hgd : o.guard = none) (s x : Operand)
    (ho : o.op = .call { callee := .builtin .append, args := #[s, x], argTypes := #[47, 47] })
    (base : Nat) (v : Value) (xs : List UInt8) (hs : a.eval s = v) (hown : OwnB base w v xs)
    (B : Nat) (c : UInt8) (n : Int) (hn : n = (c.toNat : Int)) (hx : a.eval x = .slice (some ⟨B, 0, none⟩) 1 1) (hB : w.heap[B]? = some (.cells #[.int .u8 n] 5 (0, 0)))
    (hl : xs.length + 1 ≤ 140737488355328) (hbase : base ≤ w.heap.size)
    (h : ∀ v' w', OwnB base w' v' (xs ++ [c]) → Below base w w' → wpList Tryd.prog ops Q rest (a.put o.dst v') w') : wpList Tryd.prog ops Q (o :: rest) a w := by
  subst hn
  obtain ⟨i0, hi, hz0, hz1, hz2⟩ := info_parts infoB
  refine wpList_append_lies w hgd s x 47 ho base 5 i0 (.int .u8 0) 1 1 Tryd.underlying47 hi hz0 hz1 hz2 rfl (by decide) v xs.length (xs.map bv) hs hown ⟨B, 0, none⟩ 1 1 [bv c] hx rfl ?_ (one_bv [c]) (by decide) (by unfold maxLen; omega) (by omega) hbase w.heap.size rfl ?_
  · exact World.news_of_block hB
  · intro g cap w' h1 h2 h3 _
    refine h _ w' ?_ ((Below.refl _ _).grown h2 hbase (own_ge hown))
    unfold OwnB
    rw [List.length_append, List.map_append]
    exact h1
theorem own_back {base : Nat} {w : World} {v : Value} {xs : List UInt8} (h : OwnB base w v xs) : (convert 47 9 v).run Tryd.prog w = .ok (.string ⟨xs.toArray⟩) w := by
  rcases id h with ⟨_, ⟨hv, hn⟩ | ⟨g, cap, cur, hv, hg, hh, hc, _⟩⟩
  · obtain rfl := List.eq_nil_of_length_eq_zero hn
    rw [hv, run_convert_bytes_string w _ _ _ none 0 0 Tryd.underlying47 Tryd.underlying5 Tryd.underlying9]; rfl
  · subst hv
    refine run_convert_bytes_back w 47 9 5 ⟨g, 0, none⟩ cap xs Tryd.underlying47 Tryd.underlying5 Tryd.underlying9 (fun j hj => ?_)
    exact World.ownsRow.cells h (g := g) rfl j (bv xs[j]) (by simp [hj])
/-- What is between, and how many bytes it takes, by parts. -/
theorem txN_part : ∀ (t r : List UInt8), (∀ c ∈ t, (c != 39) = true) → txN (t ++ r) = (txN r).map fun x => (t ++ x.1, x.2 + t.length) := by
  intro t
  induction t with
  | nil => intro r _; rw [List.nil_append]; cases txN r <;> simp
  | cons c t ih =>
    intro r h
    have hc := h c (by simp)
    have hc' : (c == 39) = false := by
      rw [beq_eq_false_iff_ne]
      intro e
      rw [e] at hc
      simp at hc
    rw [List.cons_append, txN.eq_def]
    simp only [hc', Bool.false_eq_true, if_false]
    rw [ih r (fun x hx => h x (by simp [hx]))]
    cases txN r with
    | none => rfl
    | some x => simp; omega
theorem txN_two (r : List UInt8) : txN (39 :: 39 :: r) = (txN r).map fun x => (39 :: x.1, x.2 + 2) := by
  rw [txN.eq_def]
  simp
theorem txN_last {r : List UInt8} (h : ([39] : List UInt8).isPrefixOf r = false) : txN (39 :: r) = some ([], 1) := by
  rw [txN.eq_def]
  simp only [beq_self_eq_true, if_true]
  cases r with
  | nil => rfl
  | cons d r =>
    simp only [List.isPrefixOf] at h
    have : (d == 39) = false := by
      cases hd : d == 39 with
      | false => rfl
      | true => rw [beq_iff_eq] at hd; subst hd; simp at h
    simp [this]
theorem txN_open {t : List UInt8} (h : ∀ c ∈ t, (c != 39) = true) : txN t = none := by
  have := txN_part t [] h
  rw [List.append_nil] at this
  rw [this]
  rfl
end Go.Proofs.YtifnmclidabkfaaDoor
