/- The ground of the texts of layer 4: values, boxes, rows of values and of bytes in memory, appends, a raw value's right value, the law's rows. -/
import Derived.Test.YtfmnlgepllgpnaaRows
import Derived.WalkKit
import Derived.WalkSpells
import Derived.WalkLawsBesides
import Derived.Lib.Strings
import Derived.Lib.AppendStr
import Derived.Deep.QuietTactic
import Derived.BigQuiet
import Derived.Deep.RegionHeld3
import Derived.Deep.AppendLies
import Derived.Deep.RegionHeldLaw
import Derived.Deep.RegionWith
import Derived.Deep.MidRow
import Derived.Laws.IdiomStrings
import Derived.Defers
import Derived.Recover
namespace Go.Proofs.Ytfmnlgepllgpnaa
open Go.RowKit
set_option linter.unusedVariables false
theorem ret_int {k : IntKind} {a b : Int} (h : a = b) : Ending.returned (.int k a) = .returned (.int k b) := by rw [h]

abbrev val (k n : Int) (s : ByteArray) (b : Bool) : Value := .agg #[.int .i64 k, .int .i64 n, .string s, .bool b]
abbrev sDone : ByteArray := ⟨#[48, 48, 48, 48, 48]⟩
abbrev nullV : Value := val 0 0 ⟨#[]⟩ false

set_option maxHeartbeats 400000 in
theorem num_any (n : Int) (w : World) :
    Calls Try.prog 24 #[.int .i64 n] w fun e w' => e = .returned (val 1 n ⟨#[]⟩ false) ∧ Below w.heap.size w w' := by
  go_enter Try.func24, Try.ntmps24
  go_wp2
  exact bodyPost_ret (v := val 1 n ⟨#[]⟩ false) (by simp [results, Try.results24, go_sem]) rfl ⟨rfl, (Below.refl _ _).alloc (Nat.le_refl _) _⟩

set_option maxHeartbeats 400000 in
theorem text_any (s : ByteArray) (w : World) :
    Calls Try.prog 25 #[.string s] w fun e w' => e = .returned (val 2 0 s false) ∧ Below w.heap.size w w' := by
  go_enter Try.func25, Try.ntmps25
  go_wp2
  exact bodyPost_ret (v := val 2 0 s false) (by simp [results, Try.results25, go_sem]) rfl ⟨rfl, (Below.refl _ _).alloc (Nat.le_refl _) _⟩


theorem bcell {W w1 : World} (hb : Below W.heap.size W w1) : (∀ b o, b < W.heap.size → w1.cell? ⟨b, o, none⟩ = W.cell? ⟨b, o, none⟩) ∧ (∀ b o, b < W.heap.size → w1.frozen? ⟨b, o, none⟩ = W.frozen? ⟨b, o, none⟩) :=
  ⟨fun b o h => hb.cell (p := ⟨b, o, none⟩) h, fun b o h => hb.frozen (p := ⟨b, o, none⟩) h⟩

theorem keepA {W0 W w' : World} (h : Below W0.heap.size W0 W) (hb : Below W.heap.size W w') : Below W0.heap.size W0 w' := h.trans (hb.mono h.size)

structure Box (w : World) (b : Nat) (K N : Int) (S : ByteArray) (B : Bool) : Prop where
  c0 : w.cell? ⟨b, 0, none⟩ = some (.int .i64 K)
  c1 : w.cell? ⟨b, 1, none⟩ = some (.int .i64 N)
  c2 : w.cell? ⟨b, 2, none⟩ = some (.string S)
  c3 : w.cell? ⟨b, 3, none⟩ = some (.bool B)
theorem cell_keep {W w' : World} (hb : Below W.heap.size W w') {b o : Nat} {v : Value} (h : W.cell? ⟨b, o, none⟩ = some v) : w'.cell? ⟨b, o, none⟩ = some v :=
  (hb.cell (p := ⟨b, o, none⟩) (World.block_lt_of_cell? W _ h)).trans h
theorem Box.keep {W w' : World} {b : Nat} {K N : Int} {S : ByteArray} {B : Bool} (h : Box W b K N S B) (hb : Below W.heap.size W w') : Box w' b K N S B :=
  ⟨cell_keep hb h.c0, cell_keep hb h.c1, cell_keep hb h.c2, cell_keep hb h.c3⟩
theorem Box.lt {W : World} {b : Nat} {K N : Int} {S : ByteArray} {B : Bool} (h : Box W b K N S B) : b < W.heap.size := World.block_lt_of_cell? W _ h.c0
theorem Box.alloc {W : World} {b : Nat} {K N : Int} {S : ByteArray} {B : Bool} (h : Box W b K N S B) (o : Obj) : Box (W.alloc o) b K N S B :=
  h.keep ((Below.refl _ _).alloc (Nat.le_refl _) o)
theorem Box.new (W : World) (K N : Int) (S : ByteArray) (B : Bool) (t : Nat) : Box (W.alloc (.cells #[.int .i64 K, .int .i64 N, .string S, .bool B] t)) W.heap.size K N S B :=
  ⟨by go_simp, by go_simp, by go_simp, by go_simp⟩
theorem Box.newAt {W : World} {b : Nat} (K N : Int) (S : ByteArray) (B : Bool) (t : Nat) (hb : b = W.heap.size) : Box (W.alloc (.cells #[.int .i64 K, .int .i64 N, .string S, .bool B] t)) b K N S B := by
  subst hb; exact Box.new W K N S B t
theorem below_alloc {W w : World} (h : Below w.heap.size w W) (o : Obj) : Below w.heap.size w (W.alloc o) := h.alloc h.size o

theorem ext_list (u : ByteArray) (n : Nat) : (u.extract 0 n).data.toList = u.data.toList.take n := by
  rw [Lib.extract_data]; simp
theorem split_last (u : ByteArray) (h : 0 < u.size) : u.data.toList = u.data.toList.take (u.size - 1) ++ [u[u.size - 1]] := by
  have h1 : u.size - 1 < u.data.toList.length := by simp; omega
  have h2 := List.take_succ_eq_append_getElem h1
  have h3 : u.size - 1 + 1 = u.data.toList.length := by simp; omega
  rw [h3, List.take_length] at h2
  exact h2
theorem ret_str {u : ByteArray} {l : List UInt8} (h : u.data.toList = l) : Ending.returned (.string u) = .returned (.string ⟨l.toArray⟩) := by
  subst h; rfl
def sizeV (t : Value) : Nat := match t with | .string u => u.size | _ => 0
theorem sizeV_str (u : ByteArray) : sizeV (.string u) = u.size := rfl
/-- A right value: its kind, number, text and truth. -/
def RightV (K N : Int) (S : ByteArray) (B : Bool) : Prop :=
  (K = 0 ∧ N = 0 ∧ S = ⟨#[]⟩ ∧ B = false) ∨ (K = 1 ∧ S = ⟨#[]⟩ ∧ B = false) ∨ (K = 2 ∧ N = 0 ∧ B = false) ∨ (K = 3 ∧ N = 0 ∧ S = ⟨#[]⟩)

theorem tmod4 {x : Int} (h : x ≤ 0) : -3 ≤ x.tmod 4 ∧ x.tmod 4 ≤ 0 := by
  obtain ⟨n, hn⟩ := Int.eq_ofNat_of_zero_le (a := -x) (by omega)
  obtain rfl : x = -(n : Int) := by omega
  rw [Int.neg_tmod, Int.tmod_eq_emod_of_nonneg (by omega)]
  omega
set_option maxHeartbeats 400000 in
theorem pick4_any (c : Int) (w : World) (h1 : -9223372036854775808 ≤ c) (h2 : c ≤ 9223372036854775807) :
    Calls Try.prog 26 #[.int .i64 c, .int .i64 4] w fun e w' => (∃ p : Int, 0 ≤ p ∧ p ≤ 3 ∧ e = .returned (.int .i64 p)) ∧ w' = w := by
  by_cases h : c < 0
  · go_enter Try.func26, Try.ntmps26
    go_wp2
    have h3 := tmod4 (x := c + 1) (by omega)
    go_ret
    exact ⟨⟨_, by omega, by omega, rfl⟩, rfl⟩
  · go_enter Try.func26, Try.ntmps26
    go_wp2
    go_ret
    exact ⟨⟨_, by omega, by omega, rfl⟩, rfl⟩

set_option maxHeartbeats 400000 in
theorem rawValue_any (k n : Int) (s : ByteArray) (b : Bool) (w : World) (h1 : -9223372036854775808 ≤ k ∧ k ≤ 9223372036854775807) :
    Calls Try.prog 16 #[val k n s b] w fun e w' => (∃ (K N : Int) (S : ByteArray) (B : Bool), e = .returned (val K N S B) ∧ RightV K N S B ∧ (N = 0 ∨ N = n) ∧ (S = ⟨#[]⟩ ∨ S = s)) ∧ Below w.heap.size w w' := by
  go_enter Try.func16, Try.ntmps16
  go_wp2_with fail
  refine (pick4_any k _ h1.1 h1.2).mono ?_
  rintro e w1 ⟨⟨p, p0, p3, rfl⟩, rfl⟩
  have hp : p = 0 ∨ p = 1 ∨ p = 2 ∨ p = 3 := by omega
  clear p0 p3 h1
  rcases hp with rfl | rfl | rfl | rfl
  · go_wp2
    exact bodyPost_ret (v := val 0 0 ⟨#[]⟩ false) (by simp [results, Try.results16, go_sem]) rfl ⟨⟨0, 0, ⟨#[]⟩, false, rfl, Or.inl ⟨rfl, rfl, rfl, rfl⟩, Or.inl rfl, Or.inl rfl⟩, (by repeat (first | exact Below.refl _ _ | assumption | refine Below.alloc ?_ (by first | (simp; done) | (simp; omega)) _ | refine Below.setCell ?_ (by first | (simp; done) | (simp; omega)) _ | refine Below.drew ?_ | refine below_drewN ?_ _))⟩
  · go_wp2_with (go_at_call 24; refine (num_any _ _).mono ?_; rintro e w1 ⟨rfl, hb⟩; obtain ⟨hcl, hfr⟩ := bcell hb)
    exact bodyPost_ret (v := val 1 n ⟨#[]⟩ false) (by simp [results, Try.results16, go_sem, hcl]) rfl ⟨⟨1, n, ⟨#[]⟩, false, rfl, Or.inr (Or.inl ⟨rfl, rfl, rfl⟩), Or.inr rfl, Or.inl rfl⟩, (by repeat (first | exact Below.refl _ _ | assumption | refine Below.alloc ?_ (by first | (simp; done) | (simp; omega)) _ | refine Below.setCell ?_ (by first | (simp; done) | (simp; omega)) _ | refine Below.drew ?_ | refine below_drewN ?_ _ | refine Below.trans ?_ (hb.mono (by first | (simp; done) | (simp; omega)))))⟩
  · go_wp2_with (go_at_call 25; refine (text_any _ _).mono ?_; rintro e w1 ⟨rfl, hb⟩; obtain ⟨hcl, hfr⟩ := bcell hb)
    exact bodyPost_ret (v := val 2 0 s false) (by simp [results, Try.results16, go_sem, hcl]) rfl ⟨⟨2, 0, s, false, rfl, Or.inr (Or.inr (Or.inl ⟨rfl, rfl, rfl⟩)), Or.inl rfl, Or.inr rfl⟩, (by repeat (first | exact Below.refl _ _ | assumption | refine Below.alloc ?_ (by first | (simp; done) | (simp; omega)) _ | refine Below.setCell ?_ (by first | (simp; done) | (simp; omega)) _ | refine Below.drew ?_ | refine below_drewN ?_ _ | refine Below.trans ?_ (hb.mono (by first | (simp; done) | (simp; omega)))))⟩
  · go_wp2
    exact bodyPost_ret (v := val 3 0 ⟨#[]⟩ b) (by simp [results, Try.results16, go_sem]) rfl ⟨⟨3, 0, ⟨#[]⟩, b, rfl, Or.inr (Or.inr (Or.inr ⟨rfl, rfl, rfl⟩)), Or.inl rfl, Or.inl rfl⟩, (by repeat (first | exact Below.refl _ _ | assumption | refine Below.alloc ?_ (by first | (simp; done) | (simp; omega)) _ | refine Below.setCell ?_ (by first | (simp; done) | (simp; omega)) _ | refine Below.drew ?_ | refine below_drewN ?_ _))⟩
/-- A value: its kind, number, text and truth. -/
abbrev V4 : Type := Int × Int × List UInt8 × Bool
/-- A right value. -/
def RightQ (v : V4) : Prop :=
  (v.1 = 0 ∧ v.2.1 = 0 ∧ v.2.2.1 = [] ∧ v.2.2.2 = false) ∨ (v.1 = 1 ∧ (-9223372036854775808 ≤ v.2.1 ∧ v.2.1 ≤ 9223372036854775807) ∧ v.2.2.1 = [] ∧ v.2.2.2 = false) ∨
  (v.1 = 2 ∧ v.2.1 = 0 ∧ v.2.2.2 = false) ∨ (v.1 = 3 ∧ v.2.1 = 0 ∧ v.2.2.1 = [])
def Rights (l : List V4) : Prop := ∀ v ∈ l, RightQ v
theorem rights_cons {v : V4} {l : List V4} : Rights (v :: l) ↔ RightQ v ∧ Rights l := by simp [Rights]
theorem rights_app {l m : List V4} : Rights (l ++ m) ↔ Rights l ∧ Rights m := by
  constructor
  · exact fun h => ⟨fun v hv => h v (by simp [hv]), fun v hv => h v (by simp [hv])⟩
  · rintro ⟨h1, h2⟩ v hv
    rcases List.mem_append.1 hv with hv | hv
    · exact h1 v hv
    · exact h2 v hv
def bv (c : UInt8) : Value := .int .u8 c.toNat
theorem infoB : (Try.prog.info? 5).map (fun i => (i.zero, i.size, i.bytes)) = some (some (.int .u8 0), 1, 1) := by kernel_rfl
/-- A slice of bytes that the call made. -/
def OwnB (base : Nat) (w : World) (v : Value) (xs : List UInt8) : Prop := w.ownsRow base 5 1 v xs.length (xs.map bv)

theorem OwnB.alloc {base : Nat} {w : World} {v : Value} {xs : List UInt8} (h : OwnB base w v xs) (o : Obj) : OwnB base (w.alloc o) v xs := World.ownsRow.alloc h o
theorem one_bv (ys : List UInt8) : ∀ u ∈ ys.map bv, u.oneCell' = true := by
  intro u hu
  obtain ⟨c, _, rfl⟩ := List.mem_map.1 hu
  rfl
/-- Behind appends to v: v' is what came of it; of what was there, v's own block alone may be turned. -/
structure GrowB (w : World) (v : Value) (w' : World) (v' : Value) : Prop where
  grown : w.grownBy w' v.ownBlock
  own : v'.ownBlock = v.ownBlock ∨ ∀ k, v'.ownBlock = some k → w.heap.size ≤ k
theorem grownBy_trans {a b c : World} {r : Option Nat} (h : a.grownBy b r) (k : b.grownBy c r) : a.grownBy c r :=
  ⟨k.os.trans h.os, k.tape.trans h.tape, k.output.trans h.output, Nat.le_trans h.size k.size, fun i hi hr => (k.block i (Nat.lt_of_lt_of_le hi h.size) hr).trans (h.block i hi hr)⟩
theorem grownBy_drew (w : World) (r : Option Nat) : w.grownBy w.drew r := ⟨rfl, rfl, rfl, Nat.le_refl _, fun _ _ _ => rfl⟩
theorem GrowB.refl (w : World) (v : Value) : GrowB w v w v := ⟨World.grownBy.refl _ _, Or.inl rfl⟩
theorem GrowB.trans {w w1 w2 : World} {v v1 v2 : Value} (h : GrowB w v w1 v1) (k : GrowB w1 v1 w2 v2) : GrowB w v w2 v2 := by
  refine ⟨⟨k.grown.os.trans h.grown.os, k.grown.tape.trans h.grown.tape, k.grown.output.trans h.grown.output, Nat.le_trans h.grown.size k.grown.size, fun i hi hr => ?_⟩, ?_⟩
  · refine (k.grown.block i (Nat.lt_of_lt_of_le hi h.grown.size) fun e => ?_).trans (h.grown.block i hi hr)
    rcases h.own with h' | h'
    · exact hr (e.trans h')
    · have := h' i e.symm; omega
  · rcases k.own with k' | k'
    · rw [k']; exact h.own
    · exact Or.inr fun b hb => Nat.le_trans h.grown.size (k' b hb)
theorem GrowB.alloc {w w1 : World} {v v1 : Value} (h : GrowB w v w1 v1) (o : Obj) : GrowB w v (w1.alloc o) v1 := h.trans ⟨World.grownBy_alloc _ _ _, Or.inl rfl⟩
theorem GrowB.drew {w w1 : World} {v v1 : Value} (h : GrowB w v w1 v1) : GrowB w v w1.drew v1 := h.trans ⟨grownBy_drew _ _, Or.inl rfl⟩
theorem own_ge {base : Nat} {w : World} {v : Value} {xs : List UInt8} (h : OwnB base w v xs) : ∀ k, v.ownBlock = some k → base ≤ k := fun k hk => (World.ownsRow.lt h k hk).1
theorem own_lt {base : Nat} {w : World} {v : Value} {xs : List UInt8} (h : OwnB base w v xs) : ∀ k, v.ownBlock = some k → k < w.heap.size := fun k hk => (World.ownsRow.lt h k hk).2
theorem GrowB.below {base : Nat} {w w' : World} {v v' : Value} {xs : List UInt8} (h : GrowB w v w' v') (hown : OwnB base w v xs) (hb : base ≤ w.heap.size) : Below base w w' :=
  (Below.refl _ _).grown h.grown hb (own_ge hown)
theorem OwnB.drew {base : Nat} {w : World} {v : Value} {xs : List UInt8} (h : OwnB base w v xs) : OwnB base w.drew v xs := h

/-- append, to bytes that the call made, of bytes that lie somewhere. -/
theorem wp_appA (w : World) {ops : Array Oper} {rest : List Oper} {o : Oper} {a : Act} {Q : Exit → Act → World → Prop} (hgd : o.guard = none) (s x : Operand)
    (ho : o.op = .call { callee := .builtin .append, args := #[s, x], argTypes := #[25, 25] })
    (base : Nat) (v : Value) (xs : List UInt8) (hs : a.eval s = v) (hown : OwnB base w v xs)
    (ad : Addr) (m c : Nat) (ys : List UInt8) (hx : a.eval x = .slice (some ad) m c) (hB : ∀ j (hj : j < ys.length), w.cell? (ad.add j) = some (bv ys[j])) (hm : ys.length = m) (hm0 : 0 < m)
    (hl : xs.length + m ≤ 140737488355328) (hbase : base ≤ w.heap.size)
    (h : ∀ v' w', OwnB base w' v' (xs ++ ys) → GrowB w v w' v' → wpList Try.prog ops Q rest (a.put o.dst v') w') : wpList Try.prog ops Q (o :: rest) a w := by
  obtain ⟨i0, hi, hz0, hz1, hz2⟩ := info_parts infoB
  refine wpList_append_lies w hgd s x 25 ho base 5 i0 (.int .u8 0) 1 1 Try.underlying25 hi hz0 hz1 hz2 rfl (by decide) v xs.length (xs.map bv) hs hown ad m c (ys.map bv) hx (by simp [hm]) ?_ (one_bv ys) hm0 (by unfold maxLen; omega) (by omega) hbase w.heap.size rfl ?_
  · intro j u hu
    rw [List.getElem?_map] at hu
    cases hj : ys[j]? with
    | none => rw [hj] at hu; cases hu
    | some c =>
      rw [hj] at hu
      obtain ⟨hlt, hc⟩ := List.getElem?_eq_some_iff.1 hj
      rw [hB j hlt, hc]; exact hu
  · intro g cap w' h1 h2 h3 _
    refine h _ w' ?_ ⟨h2, ?_⟩
    · unfold OwnB
      rw [List.length_append, List.map_append, hm]
      exact h1
    · rcases h3 with h3 | h3
      · exact Or.inl h3.symm
      · exact Or.inr fun k hk => by simp [Value.ownBlock] at hk; omega
/-- append, to bytes that the call made, of a text. -/
theorem wp_appS (w : World) {ops : Array Oper} {rest : List Oper} {o : Oper} {a : Act} {Q : Exit → Act → World → Prop} (hgd : o.guard = none) (s x : Operand)
    (ho : o.op = .call { callee := .builtin .append, args := #[s, x], argTypes := #[25, 9] })
    (base : Nat) (v : Value) (xs : List UInt8) (hs : a.eval s = v) (hown : OwnB base w v xs)
    (t : ByteArray) (hx : a.eval x = .string t) (hl : xs.length + t.size ≤ 140737488355328) (hbase : base ≤ w.heap.size)
    (h : ∀ v' w', OwnB base w' v' (xs ++ t.data.toList) → Below base w w' → wpList Try.prog ops Q rest (a.put o.dst v') w') : wpList Try.prog ops Q (o :: rest) a w := by
  obtain ⟨i0, hi, hz0, hz1, hz2⟩ := info_parts infoB
  refine Lib.wpList_append_own_string w hgd s x 25 9 ho base 5 i0 Try.underlying25 Try.underlying9 hi hz0 hz1 hz2 v xs.length (xs.map bv) hs hown t hx (by unfold maxLen; omega) hl hbase ?_
  intro v' w' h1 h2 _
  refine h v' w' ?_ ((Below.refl _ _).grown h2 hbase (own_ge hown))
  unfold OwnB
  rw [List.length_append, List.map_append, show t.data.toList.length = t.size by simp]
  exact h1
/-- append, to bytes that the call made, of bytes that lie in a block of their own. -/
theorem wp_appB (w : World) {ops : Array Oper} {rest : List Oper} {o : Oper} {a : Act} {Q : Exit → Act → World → Prop} (hgd : o.guard = none) (s x : Operand)
    (ho : o.op = .call { callee := .builtin .append, args := #[s, x], argTypes := #[25, 25] })
    (base : Nat) (v : Value) (xs : List UInt8) (hs : a.eval s = v) (hown : OwnB base w v xs)
    (B m : Nat) (news : Array Value) (ys : List UInt8) (hx : a.eval x = .slice (some ⟨B, 0, none⟩) m m) (hB : w.heap[B]? = some (.cells news 5 (0, 0))) (hy : news.toList = ys.map bv) (hm : ys.length = m) (hm0 : 0 < m)
    (hl : xs.length + m ≤ 140737488355328) (hbase : base ≤ w.heap.size)
    (h : ∀ v' w', OwnB base w' v' (xs ++ ys) → GrowB w v w' v' → wpList Try.prog ops Q rest (a.put o.dst v') w') : wpList Try.prog ops Q (o :: rest) a w := by
  obtain ⟨i0, hi, hz0, hz1, hz2⟩ := info_parts infoB
  refine wpList_append_lies w hgd s x 25 ho base 5 i0 (.int .u8 0) 1 1 Try.underlying25 hi hz0 hz1 hz2 rfl (by decide) v xs.length (xs.map bv) hs hown ⟨B, 0, none⟩ m m (ys.map bv) hx (by simp [hm]) ?_ (one_bv ys) hm0 (by unfold maxLen; omega) (by omega) hbase w.heap.size rfl ?_
  · rw [← hy]; exact World.news_of_block hB
  · intro g cap w' h1 h2 h3 _
    refine h _ w' ?_ ⟨h2, ?_⟩
    · unfold OwnB
      rw [List.length_append, List.map_append, hm]
      exact h1
    · rcases h3 with h3 | h3
      · exact Or.inl h3.symm
      · exact Or.inr fun k hk => by simp [Value.ownBlock] at hk; omega
theorem step_appB (w : World) {ops : Array Oper} {o : Oper} {a : Act} {K : Act → World → Prop} {Q : Exit → Act → World → Prop} {E : Prop} (hgd : o.guard = none) (s x : Operand)
    (ho : o.op = .call { callee := .builtin .append, args := #[s, x], argTypes := #[25, 25] })
    (base : Nat) (v : Value) (xs : List UInt8) (hs : a.eval s = v) (hown : OwnB base w v xs)
    (B m : Nat) (news : Array Value) (ys : List UInt8) (hx : a.eval x = .slice (some ⟨B, 0, none⟩) m m) (hB : w.heap[B]? = some (.cells news 5 (0, 0))) (hy : news.toList = ys.map bv) (hm : ys.length = m) (hm0 : 0 < m)
    (hl : xs.length + m ≤ 140737488355328) (hbase : base ≤ w.heap.size)
    (h : ∀ v' w', OwnB base w' v' (xs ++ ys) → GrowB w v w' v' → K (a.put o.dst v') w') :
    if Region.wanted o (yielded ops a.tmps) = true then Oper.wp Try.prog o a w K Q else E := by
  obtain ⟨i0, hi, hz0, hz1, hz2⟩ := info_parts infoB
  refine step_append_lies w hgd s x 25 ho base 5 i0 (.int .u8 0) 1 1 Try.underlying25 hi hz0 hz1 hz2 rfl (by decide) v xs.length (xs.map bv) hs hown ⟨B, 0, none⟩ m m (ys.map bv) hx (by simp [hm]) ?_ (one_bv ys) hm0 (by unfold maxLen; omega) (by omega) hbase w.heap.size rfl ?_
  · rw [← hy]; exact World.news_of_block hB
  · intro g cap w' h1 h2 h3 _
    refine h _ w' ?_ ⟨h2, ?_⟩
    · unfold OwnB
      rw [List.length_append, List.map_append, hm]
      exact h1
    · rcases h3 with h3 | h3
      · exact Or.inl h3.symm
      · exact Or.inr fun k hk => by simp [Value.ownBlock] at hk; omega
theorem keep_cell {w W w' : World} {v v' : Value} {base : Nat} {xs : List UInt8} {b o : Nat} {x : Value} (hg : GrowB W v w' v') (hown : OwnB base w v xs) (hb : w.heap.size ≤ b) (hlt : b < W.heap.size) (hc : W.cell? ⟨b, o, none⟩ = some x) : w'.cell? ⟨b, o, none⟩ = some x :=
  (hg.grown.cell_far ⟨b, o, none⟩ hlt (fun e => by have := own_lt hown b e.symm; omega)).trans hc

theorem new_at (w : World) (o : Obj) {B : Nat} (h : B = w.heap.size) : (w.alloc o).heap[B]? = some o := by subst h; exact heap_alloc_new _ _
theorem new_drew (w : World) (o : Obj) {B : Nat} (h : B = w.heap.size) : (w.alloc o).drew.heap[B]? = some o := new_at w o h
def cellsV (x : V4) : List Value := [.int .i64 x.1, .int .i64 x.2.1, .string ⟨x.2.2.1.toArray⟩, .bool x.2.2.2]
theorem cellsV_len (x : V4) : (cellsV x).length = 4 := rfl
/-- A row that is read: so many values, and where they lie. -/
def RowAt (w : World) (v : Value) (rs : List V4) : Prop :=
  ∃ (ao : Option Addr) (cap : Nat), v = .slice ao rs.length cap ∧ rs.length ≤ cap ∧ (rs = [] ∨ ∃ g o, ao = some ⟨g, o, none⟩ ∧ ∀ k (h : k < rs.length), w.rangeAt g (o + k * 4) (cellsV rs[k]))
/-- A row that the call made. -/
def OwnR (base : Nat) (w : World) (v : Value) (l : List V4) : Prop := w.ownsRow base 40 4 v l.length (l.flatMap cellsV)

theorem rangeAt_keep {W w' : World} (hb : Below W.heap.size W w') {b o : Nat} {cs : List Value} (h : W.rangeAt b o cs) : w'.rangeAt b o cs := fun j v hv => cell_keep hb (h j v hv)
theorem RowAt.keep {W w' : World} {v : Value} {l : List V4} (h : RowAt W v l) (hb : Below W.heap.size W w') : RowAt w' v l := by
  obtain ⟨ao, cap, hv, hc, h⟩ := h
  refine ⟨ao, cap, hv, hc, ?_⟩
  rcases h with h | ⟨g, o, hg, h⟩
  · exact Or.inl h
  · exact Or.inr ⟨g, o, hg, fun k hk => rangeAt_keep hb (h k hk)⟩
theorem RowAt.cap {w : World} {v : Value} {l : List V4} (h : RowAt w v l) : ∃ (ao : Option Addr) (cap : Nat), v = .slice ao l.length cap ∧ l.length ≤ cap := by
  obtain ⟨ao, cap, h1, h2, _⟩ := h
  exact ⟨ao, cap, h1, h2⟩
theorem flat_at (l : List V4) (k : Nat) (h : k < l.length) (j : Nat) (hj : j < 4) : (l.flatMap cellsV)[k * 4 + j]? = (cellsV l[k])[j]? := by
  induction l generalizing k with
  | nil => simp at h
  | cons x l ih =>
    rw [List.flatMap_cons]
    cases k with
    | zero =>
      rw [List.getElem?_append_left (by rw [cellsV_len]; omega)]
      simp
    | succ k =>
      rw [List.getElem?_append_right (by rw [cellsV_len]; omega), cellsV_len, show (k + 1) * 4 + j - 4 = k * 4 + j by omega]
      simpa using ih k (by simpa using h)
theorem OwnR.row {base : Nat} {w : World} {v : Value} {l : List V4} (h : OwnR base w v l) : RowAt w v l := by
  obtain ⟨h1, h2⟩ := h
  rcases h2 with ⟨hv, hn⟩ | ⟨g, cap, cur, hv, hg, hh, hc, hm, hs, hx⟩
  · exact ⟨none, 0, by rw [hv, hn], by omega, Or.inl (List.eq_nil_of_length_eq_zero hn)⟩
  · refine ⟨_, cap, hv, hc, Or.inr ⟨g, 0, rfl, fun k hk j u hu => ?_⟩⟩
    rw [Nat.zero_add]
    have hj : j < 4 := by
      have := (List.getElem?_eq_some_iff.1 hu).1
      rwa [cellsV_len] at this
    rw [← flat_at l k hk j hj, ← hx, List.getElem?_take] at hu
    split at hu
    · rw [cell_of_row w g (k * 4 + j) cur _ _ hh]
      simpa using hu
    · cases hu
theorem OwnB.bytes {base : Nat} {w : World} {v : Value} {xs : List UInt8} (h : OwnB base w v xs) : (v = .slice none 0 0 ∧ xs = []) ∨ ∃ g cap, v = .slice (some ⟨g, 0, none⟩) xs.length cap ∧ ∀ j (hj : j < xs.length), w.cell? ((⟨g, 0, none⟩ : Addr).add j) = some (.int .u8 (xs[j].toNat : Int)) := by
  obtain ⟨h1, h2⟩ := h
  rcases h2 with ⟨hv, hn⟩ | ⟨g, cap, cur, hv, hg, hh, hc, hm, hs, hx⟩
  · exact Or.inl ⟨hv, List.eq_nil_of_length_eq_zero hn⟩
  · refine Or.inr ⟨g, cap, hv, fun j hj => ?_⟩
    rw [Addr.add_mid, cell_of_row w g (0 + j) cur _ _ hh]
    have : (cur.toList.take (xs.length * 1))[j]? = some (bv xs[j]) := by rw [hx]; simp [hj]
    rw [List.getElem?_take, if_pos (by omega)] at this
    simpa [bv] using this
theorem len_str (S : ByteArray) : S.data.toList.length = S.size := by simp
theorem infoV : (Try.prog.info? 40).map (·.size) = some 4 := by kernel_rfl
/-- Bytes that are read: so many, and where they lie. -/
def BytesAt (w : World) (v : Value) (xs : List UInt8) : Prop :=
  ∃ (ao : Option Addr) (cap : Nat), v = .slice ao xs.length cap ∧ xs.length ≤ cap ∧ ((xs = [] ∧ (ao = none → cap = 0)) ∨ ∃ g o, ao = some ⟨g, o, none⟩ ∧ w.rangeAt g o (xs.map bv))
theorem infoR : (Try.prog.info? 40).map (fun i => (i.zero, i.size, i.bytes)) = some (some (val 0 0 ⟨#[]⟩ false), 4, 40) := by kernel_rfl
theorem flat_len (l : List V4) : (l.flatMap cellsV).length = l.length * 4 := by
  induction l with
  | nil => rfl
  | cons x l ih => rw [List.flatMap_cons, List.length_append, ih, cellsV_len, List.length_cons]; omega
theorem one_cells (l : List V4) : ∀ u ∈ l.flatMap cellsV, u.oneCell' = true := by
  intro u hu
  obtain ⟨x, _, hx⟩ := List.mem_flatMap.1 hu
  simp only [cellsV, List.mem_cons, List.not_mem_nil, or_false] at hx
  rcases hx with rfl | rfl | rfl | rfl <;> rfl
theorem flat_cells {w : World} {g : Nat} {l : List V4} (h : ∀ k (h : k < l.length), w.rangeAt g (k * 4) (cellsV l[k])) : ∀ j u, (l.flatMap cellsV)[j]? = some u → w.cell? ((⟨g, 0, none⟩ : Addr).add j) = some u := by
  intro j u hu
  have hj := (List.getElem?_eq_some_iff.1 hu).1
  rw [flat_len] at hj
  have hk : j / 4 < l.length := by omega
  have e : j = j / 4 * 4 + j % 4 := by omega
  rw [e, flat_at l (j / 4) hk (j % 4) (by omega)] at hu
  have := h (j / 4) hk (j % 4) u hu
  rw [Addr.add_mid, Nat.zero_add, e]
  exact this
theorem OwnR.alloc {base : Nat} {w : World} {v : Value} {l : List V4} (h : OwnR base w v l) (o : Obj) : OwnR base (w.alloc o) v l := World.ownsRow.alloc h o
theorem OwnR.drew {base : Nat} {w : World} {v : Value} {l : List V4} (h : OwnR base w v l) : OwnR base w.drew v l := h
theorem OwnR.ge {base : Nat} {w : World} {v : Value} {l : List V4} (h : OwnR base w v l) : ∀ k, v.ownBlock = some k → base ≤ k := fun k hk => (World.ownsRow.lt h k hk).1
/-- append, to a row that the call made, of values that lie somewhere. -/
theorem wp_appR (w : World) {ops : Array Oper} {rest : List Oper} {o : Oper} {a : Act} {Q : Exit → Act → World → Prop} (hgd : o.guard = none) (s x : Operand)
    (ho : o.op = .call { callee := .builtin .append, args := #[s, x], argTypes := #[24, 24] })
    (base : Nat) (v : Value) (l : List V4) (hs : a.eval s = v) (hown : OwnR base w v l)
    (g m c : Nat) (l2 : List V4) (hx : a.eval x = .slice (some ⟨g, 0, none⟩) m c) (hB : ∀ k (h : k < l2.length), w.rangeAt g (k * 4) (cellsV l2[k])) (hm : l2.length = m) (hm0 : 0 < m)
    (hl : l.length + m ≤ 3000000000000) (hbase : base ≤ w.heap.size)
    (h : ∀ v' w', OwnR base w' v' (l ++ l2) → GrowB w v w' v' → wpList Try.prog ops Q rest (a.put o.dst v') w') : wpList Try.prog ops Q (o :: rest) a w := by
  obtain ⟨i0, hi, hz0, hz1, hz2⟩ := info_parts infoR
  refine wpList_append_lies w hgd s x 24 ho base 40 i0 (val 0 0 ⟨#[]⟩ false) 4 40 Try.underlying24 hi hz0 hz1 hz2 rfl (by decide) v l.length (l.flatMap cellsV) hs hown ⟨g, 0, none⟩ m c (l2.flatMap cellsV) hx (by rw [flat_len, hm]) (flat_cells hB) (one_cells l2) hm0 (by unfold maxLen; omega) (by omega) hbase w.heap.size rfl ?_
  intro g cap w' h1 h2 h3 _
  refine h _ w' ?_ ⟨h2, ?_⟩
  · unfold OwnR
    rw [List.length_append, List.flatMap_append, hm]
    exact h1
  · rcases h3 with h3 | h3
    · exact Or.inl h3.symm
    · exact Or.inr fun k hk => by simp [Value.ownBlock] at hk; omega
theorem step_appR (w : World) {ops : Array Oper} {o : Oper} {a : Act} {K : Act → World → Prop} {Q : Exit → Act → World → Prop} {E : Prop} (hgd : o.guard = none) (s x : Operand)
    (ho : o.op = .call { callee := .builtin .append, args := #[s, x], argTypes := #[24, 24] })
    (base : Nat) (v : Value) (l : List V4) (hs : a.eval s = v) (hown : OwnR base w v l)
    (g m c : Nat) (l2 : List V4) (hx : a.eval x = .slice (some ⟨g, 0, none⟩) m c) (hB : ∀ k (h : k < l2.length), w.rangeAt g (k * 4) (cellsV l2[k])) (hm : l2.length = m) (hm0 : 0 < m)
    (hl : l.length + m ≤ 3000000000000) (hbase : base ≤ w.heap.size)
    (h : ∀ v' w', OwnR base w' v' (l ++ l2) → GrowB w v w' v' → K (a.put o.dst v') w') :
    if Region.wanted o (yielded ops a.tmps) = true then Oper.wp Try.prog o a w K Q else E := by
  obtain ⟨i0, hi, hz0, hz1, hz2⟩ := info_parts infoR
  refine step_append_lies w hgd s x 24 ho base 40 i0 (val 0 0 ⟨#[]⟩ false) 4 40 Try.underlying24 hi hz0 hz1 hz2 rfl (by decide) v l.length (l.flatMap cellsV) hs hown ⟨g, 0, none⟩ m c (l2.flatMap cellsV) hx (by rw [flat_len, hm]) (flat_cells hB) (one_cells l2) hm0 (by unfold maxLen; omega) (by omega) hbase w.heap.size rfl ?_
  intro g cap w' h1 h2 h3 _
  refine h _ w' ?_ ⟨h2, ?_⟩
  · unfold OwnR
    rw [List.length_append, List.flatMap_append, hm]
    exact h1
  · rcases h3 with h3 | h3
    · exact Or.inl h3.symm
    · exact Or.inr fun k hk => by simp [Value.ownBlock] at hk; omega
theorem row_one (w : World) (x : V4) : ∀ k (h : k < [x].length), (w.alloc (.cells #[.int .i64 x.1, .int .i64 x.2.1, .string ⟨x.2.2.1.toArray⟩, .bool x.2.2.2] 40)).rangeAt w.heap.size (k * 4) (cellsV [x][k]) := by
  intro k hk j u hu
  simp only [List.length_singleton] at hk
  obtain rfl : k = 0 := by omega
  rw [cell_of_row _ _ _ _ _ _ (heap_alloc_new w _)]
  simpa [cellsV] using hu

/-- Numbers of 64 bits, and a text that is not too long. -/
def RawOk (M : Nat) (x : V4) : Prop := (-9223372036854775808 ≤ x.1 ∧ x.1 ≤ 9223372036854775807) ∧ (-9223372036854775808 ≤ x.2.1 ∧ x.2.1 ≤ 9223372036854775807) ∧ x.2.2.1.length ≤ M
theorem str_back (S : ByteArray) : (⟨S.data.toList.toArray⟩ : ByteArray) = S := by cases S; simp
theorem row_new (w : World) (K N : Int) (S : ByteArray) (B : Bool) : ∀ k (h : k < [((K, N, S.data.toList, B) : V4)].length), (w.alloc (.cells #[.int .i64 K, .int .i64 N, .string S, .bool B] 40)).rangeAt w.heap.size (k * 4) (cellsV [((K, N, S.data.toList, B) : V4)][k]) := by
  have h := row_one w (K, N, S.data.toList, B)
  simp only [str_back] at h
  exact h
theorem right_of {K N n : Int} {S : ByteArray} {B : Bool} (h : RightV K N S B) (hN : N = 0 ∨ N = n) (hn : -9223372036854775808 ≤ n ∧ n ≤ 9223372036854775807) : RightQ (K, N, S.data.toList, B) := by
  rcases h with ⟨h1, h2, h3, h4⟩ | ⟨h1, h3, h4⟩ | ⟨h1, h2, h4⟩ | ⟨h1, h2, h3⟩
  · exact Or.inl ⟨h1, h2, by rw [h3], h4⟩
  · exact Or.inr (Or.inl ⟨h1, by simp only; rcases hN with e | e <;> omega, by rw [h3], h4⟩)
  · exact Or.inr (Or.inr (Or.inl ⟨h1, h2, h4⟩))
  · exact Or.inr (Or.inr (Or.inr ⟨h1, h2, by rw [h3]⟩))
/-- Right values, forty at most, with texts that are not too long. -/
structure RowOk (M : Nat) (l : List V4) : Prop where
  rights : Rights l
  texts : ∀ x ∈ l, x.2.2.1.length ≤ M
  len : l.length ≤ 40
theorem grown_of {w w' : World} (h : Below w.heap.size w w') (r : Option Nat) : w.grownBy w' r := ⟨h.os, h.tape, h.output, h.size, fun k hk _ => h.block k hk⟩
theorem OwnR.keepB {base : Nat} {w w' : World} {v : Value} {l : List V4} (h : OwnR base w v l) (hb : Below w.heap.size w w') : OwnR base w' v l :=
  World.ownsRow.kept h (grown_of hb none) (by cases hv : v.ownBlock <;> simp)
theorem GrowB.belowR {base : Nat} {w w' : World} {v v' : Value} {l : List V4} (h : GrowB w v w' v') (hown : OwnR base w v l) (hb : base ≤ w.heap.size) : Below base w w' :=
  (Below.refl _ _).grown h.grown hb hown.ge
theorem RowOk.snoc {M : Nat} {l : List V4} {x : V4} (h : RowOk M l) (hx : RightQ x) (ht : x.2.2.1.length ≤ M) (hl : l.length < 40) : RowOk M (l ++ [x]) := by
  refine ⟨rights_app.2 ⟨h.rights, fun v hv => by rw [List.mem_singleton.1 hv]; exact hx⟩, fun v hv => ?_, by rw [List.length_append]; simp; omega⟩
  rcases List.mem_append.1 hv with hv | hv
  · exact h.texts v hv
  · rw [List.mem_singleton.1 hv]; exact ht
theorem infoRaw : (Try.prog.info? 44).map (·.size) = some 4 := by kernel_rfl

set_option maxHeartbeats 1000000 in
theorem row_any (M : Nat) (v : Value) (rs : List V4) (w : World) (hv : RowAt w v rs) (hok : ∀ x ∈ rs, RawOk M x) (hl : rs.length ≤ 1099511627776000) :
    Calls Try.prog 8 #[v] w fun e w' => ∃ (rv : Value) (l : List V4), e = .returned rv ∧ OwnR w.heap.size w' rv l ∧ RowOk M l ∧ Below w.heap.size w w' := by
  obtain ⟨ao, cap, rfl, hcap, hcl⟩ := hv
  go_enter Try.func8, Try.ntmps8
  go_wp2
  go_loopw [3, 4] (fun u i wr => ∃ (k : Nat) (l : List V4), k ≤ rs.length ∧ k ≤ 40 ∧ i = .int .i64 k ∧ OwnR w.heap.size wr u l ∧ l.length ≤ k ∧ Hid (RowOk M l) ∧ Below w.heap.size w wr) (fun _ i _ => rs.length - (intOf i).toNat)
  case atStart => exact ⟨0, [], Nat.zero_le _, Nat.zero_le _, rfl, World.ownsRow_nil _ _ _ _, Nat.zero_le _, ⟨(fun v hv => by cases hv), (fun v hv => by cases hv), Nat.zero_le _⟩, Below.refl _ _⟩
  case round =>
    obtain ⟨k, l, hk, hk40, rfl, hown, hlk, HL, hnx⟩ := hrel
    by_cases h1 : k < rs.length
    · by_cases h2 : k < 40
      · rcases hcl with h0 | ⟨g, o, rfl, hcl⟩
        · rw [h0] at h1; simp at h1
        have r1 := rangeAt_keep hnx (hcl k h1)
        have ho := hok _ (List.getElem_mem h1)
        generalize rs[k] = x at *
        clear hcl hok
        obtain ⟨K0, N0, S0, B0⟩ := x
        obtain ⟨S, rfl⟩ : ∃ S : ByteArray, S.data.toList = S0 := ⟨⟨S0.toArray⟩, rfl⟩
        have r2 : wr.rangeAt g (o + k * 4) [.int .i64 K0, .int .i64 N0, .string S, .bool B0] := by
          have : cellsV (K0, N0, S.data.toList, B0) = [.int .i64 K0, .int .i64 N0, .string S, .bool B0] := by simp only [cellsV, str_back]
          rw [← this]; exact r1
        have HB : Hid (RawOk M (K0, N0, S.data.toList, B0)) := ho
        have hbs := hnx.size
        clear r1 ho
        go_wp2_with (first
          | (refine wpList_load_mid rfl _ _ rfl g (o + k * 4) (by rfl) [.int .i64 K0, .int .i64 N0, .string S, .bool B0] _ r2 Try.underlying44 rfl infoRaw ?_))
        refine (rawValue_any K0 N0 S B0 _ HB.out.1).mono ?_
        rintro e w1 ⟨⟨K, N, T, B, rfl, hR, hN, hT⟩, hb⟩
        have hown1 := hown.keepB hb
        have hn1 : Below w.heap.size w w1 := keepA hnx hb
        have hT2 : T.data.toList.length ≤ M := by
          rcases hT with h | h
          · rw [h]; simp
          · rw [h]; exact HB.out.2.2
        have HQ : Hid (RowOk M (l ++ [(K, N, T.data.toList, B)])) := HL.out.snoc (right_of hR hN HB.out.2.1) hT2 (by omega)
        have hbs1 := hn1.size
        clear hb hnx hown HL HB hR hN hT hT2 r2 hbs
        go_wp2_with (at_builtin; refine wp_appR _ rfl _ _ rfl w.heap.size _ l rfl (hown1.alloc _) w1.heap.size 1 1 [(K, N, T.data.toList, B)] rfl (row_new w1 K N T B) rfl (by decide) (by omega) (by simp; omega) ?_)
        intro v' w2 hown2 hgrow
        have hn2 := (hn1.alloc hbs1 _).trans (hgrow.belowR (hown1.alloc _) (by simp; omega))
        clear hgrow hown1 hn1
        go_wp2
        go_roundw
        case rel => exact ⟨k + 1, l ++ [(K, N, T.data.toList, B)], by omega, by omega, by go_num, hown2, by simp; omega, HQ, hn2⟩
        case measure => simp [intOf]; omega
      · go_wp2
        go_ret
        exact ⟨_, l, rfl, hown, HL, hnx⟩
    · go_wp2
      go_ret
      exact ⟨_, l, rfl, hown, HL, hnx⟩
end Go.Proofs.Ytfmnlgepllgpnaa
