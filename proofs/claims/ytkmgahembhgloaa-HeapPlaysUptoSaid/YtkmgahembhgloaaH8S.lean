/- The law's own functions: pick, the bytes of a step; lists held against each other. -/
import Derived.Test.YtkmgahembhgloaaH8R
import Derived.Lib.Strings
namespace Go.Proofs.Ytkmgahembhgloaa
open Go.RowKit Go.Maps
set_option linter.unusedVariables false
set_option linter.unusedSimpArgs false

def Ints (w : World) (v : Value) (ks : List Int) : Prop :=
  ∃ ao cap, v = .slice ao ks.length cap ∧ ks.length ≤ cap ∧ (ks = [] ∨ ∃ g, ao = some ⟨g, 0, none⟩ ∧ ∀ j (hj : j < ks.length), w.cell? ⟨g, j, none⟩ = some (.int .i64 ks[j]))
theorem ints_of_own {base : Nat} {w : World} {v : Value} {ks : List Int} (h : w.ownsRow base 3 1 v ks.length (ks.map (Value.int .i64))) : Ints w v ks := by
  rcases id h with ⟨h1, ⟨hv, hn⟩ | ⟨g, cap, cur, hv, hg, hh, hc, _⟩⟩
  · exact ⟨none, 0, by rw [hv, hn], by omega, Or.inl (List.eq_nil_of_length_eq_zero hn)⟩
  · refine ⟨some ⟨g, 0, none⟩, cap, hv, hc, Or.inr ⟨g, rfl, fun j hj => ?_⟩⟩
    have := World.ownsRow.cells h (g := g) (by rw [hv]; rfl) j (.int .i64 ks[j]) (by simp [hj])
    rw [Addr.add_mid] at this
    simpa using this
set_option maxHeartbeats 1000000 in
theorem sameInts_any {w : World} {v1 v2 : Value} {xs ys : List Int} (h1 : Ints w v1 xs) (h2 : Ints w v2 ys) (hl : xs.length ≤ 100000) (hl2 : ys.length ≤ 100000) :
    Calls Try.prog 13 #[v1, v2] w fun e w' => e = .returned (.bool (decide (xs = ys))) ∧ Below w.heap.size w w' := by
  obtain ⟨a1, c1, rfl, hc1, hx⟩ := h1
  obtain ⟨a2, c2, rfl, hc2, hy⟩ := h2
  by_cases hlen : xs.length = ys.length
  · have HX : Hid (xs = [] ∨ ∃ g, a1 = some ⟨g, 0, none⟩ ∧ ∀ j (hj : j < xs.length), w.cell? ⟨g, j, none⟩ = some (.int .i64 xs[j])) := hx
    have HY : Hid (ys = [] ∨ ∃ g, a2 = some ⟨g, 0, none⟩ ∧ ∀ j (hj : j < ys.length), w.cell? ⟨g, j, none⟩ = some (.int .i64 ys[j])) := hy
    have HL : Hid (xs.length = ys.length) := hlen
    rw [← hlen]
    rw [← hlen] at hc2
    clear hx hy hlen
    go_enter Try.func13, Try.ntmps13
    go_wp2
    go_loopw [5] (fun i wr => ∃ k : Nat, k ≤ xs.length ∧ i = .int .i64 k ∧ Hid (xs.take k = ys.take k) ∧ Below w.heap.size w wr) (fun i _ => xs.length - (intOf i).toNat)
    case atStart => exact ⟨0, Nat.zero_le _, rfl, rfl, Below.refl _ _⟩
    case round =>
      obtain ⟨k, hk, rfl, HT, hb⟩ := hrel
      by_cases hlt : k < xs.length
      · have hlt2 : k < ys.length := by have := HL.out; omega
        rcases HX.out with h0 | ⟨g1, rfl, hX⟩
        · rw [h0] at hlt; simp at hlt
        rcases HY.out with h0 | ⟨g2, rfl, hY⟩
        · rw [h0] at hlt2; simp at hlt2
        have q1 := (hb.cell (World.block_lt_of_cell? _ _ (hX k hlt))).trans (hX k hlt)
        have q2 := (hb.cell (World.block_lt_of_cell? _ _ (hY k hlt2))).trans (hY k hlt2)
        have HS : Hid (xs[k] = ys[k] → xs.take (k + 1) = ys.take (k + 1)) := fun e => by
          rw [List.take_succ_eq_append_getElem hlt, List.take_succ_eq_append_getElem hlt2, HT.out, e]
        have HD : Hid (xs[k] ≠ ys[k] → xs ≠ ys) := fun e e' => e (by subst e'; rfl)
        clear hX hY
        generalize xs[k] = X at *
        generalize ys[k] = Y at *
        by_cases he : X = Y
        · subst he
          go_wp2
          go_quiet (fail)
          go_wp2
          go_roundw
          case rel => exact ⟨k + 1, by omega, by first | go_num | (congr 1; omega), HS.out (by first | rfl | trivial), below_drewN hb _⟩
          case measure => simp [intOf]; omega
        · have y1 : (X != Y) = true := by simpa using he
          have hne := HD.out he
          go_wp2
          go_quiet (fail)
          go_wp2
          go_ret
          exact ⟨by simp [hne], below_drewN hb _⟩
      · obtain rfl : k = xs.length := by omega
        have he : xs = ys := by
          have := HT.out
          rwa [List.take_of_length_le (Nat.le_refl _), List.take_of_length_le (by have := HL.out; omega)] at this
        go_wp2
        go_ret
        exact ⟨by simp [he], hb⟩
  · have hne : xs ≠ ys := fun e => hlen (by rw [e])
    have y1 : ((xs.length : Int) != (ys.length : Int)) = true := by simp; omega
    clear hx hy
    generalize xs.length = A at *
    generalize ys.length = B at *
    go_enter Try.func13, Try.ntmps13
    go_wp2
    go_ret
    exact ⟨by simp [hne], Below.refl _ _⟩
theorem conv_str7 {w : World} {tv : Value} {xs : List UInt8} (h : Bytes w tv xs) : (convert 30 9 tv).run Try.prog w = .ok (.string ⟨xs.toArray⟩) w := by
  rcases h with ⟨rfl, rfl⟩ | ⟨a, cap, rfl, hc, hb⟩
  · rw [run_convert_bytes_string w _ _ _ none 0 0 Try.underlying30 Try.underlying5 Try.underlying9]; rfl
  · exact run_convert_bytes_back w 30 9 5 a cap xs Try.underlying30 Try.underlying5 Try.underlying9 hb
set_option maxRecDepth 20000 in
theorem same7 (v1 v2 : Value) (xs ys : List UInt8) (w : World) (h1 : Bytes w v1 xs) (h2 : Bytes w v2 ys) :
    Calls Try.prog 17 #[v1, v2] w fun e w' => e = .returned (.bool (decide (xs = ys))) ∧ w' = w := by
  have c1 := conv_str7 h1
  have c2 := conv_str7 h2
  have l1 : (⟨xs.toArray⟩ : ByteArray).toList = xs := by rw [Lib.toList_data]
  have l2 : (⟨ys.toArray⟩ : ByteArray).toList = ys := by rw [Lib.toList_data]
  clear h1 h2
  generalize (⟨xs.toArray⟩ : ByteArray) = a at *
  generalize (⟨ys.toArray⟩ : ByteArray) = b at *
  go_enter Try.func17, Try.ntmps17
  go_wp2
  go_ret
  refine ⟨?_, rfl⟩
  show Ending.returned (.bool _) = _
  congr 2
  by_cases h : xs = ys <;> simp [h]
theorem pick_val {c : Int} {n : Nat} (hc : c < 0) (hn : 0 < n) : -((c + 1).tmod n) = (-(c + 1)) % (n : Int) := by
  rw [← Int.neg_tmod, Int.tmod_eq_emod_of_nonneg (by omega)]
/-- Which of n things a raw number speaks of. -/
def pickN (c : Int) (n : Nat) : Nat := ((if c < 0 then -(c + 1) else c) % (n : Int)).toNat
theorem pickN_lt (c : Int) (n : Nat) (hn : 0 < n) : pickN c n < n := by
  unfold pickN
  have h3 := Int.emod_nonneg (if c < 0 then -(c + 1) else c) (b := (n : Int)) (by omega)
  have h4 := Int.emod_lt_of_pos (if c < 0 then -(c + 1) else c) (b := (n : Int)) (by omega)
  omega
set_option maxHeartbeats 400000 in
theorem pick8 (c : Int) (n : Nat) (w : World) (h1 : -9223372036854775808 ≤ c ∧ c ≤ 9223372036854775807) (hn : 0 < n) (hn2 : n ≤ 1000000) :
    Calls Try.prog 7 #[.int .i64 c, .int .i64 n] w fun e w' => e = .returned (.int .i64 (pickN c n)) ∧ w' = w := by
  have hnz : ¬ ((n : Int) = 0) := by omega
  unfold pickN
  by_cases h : c < 0
  · rw [if_pos h]
    have h3 := Int.emod_nonneg (-(c + 1)) (b := (n : Int)) hnz
    have h5 := pick_val h hn
    have e : (((-(c + 1)) % (n : Int)).toNat : Int) = (-(c + 1)) % (n : Int) := by omega
    rw [e]
    go_enter Try.func7, Try.ntmps7
    go_wp2
    go_ret
    refine ⟨?_, rfl⟩
    show Ending.returned (.int .i64 _) = _
    congr 2
    first
      | done
      | exact h5
      | (rw [Int.tmod_eq_emod_of_nonneg (by omega)]; done)
      | (rw [Int.tmod_eq_emod_of_nonneg (by omega)]; omega)
      | omega
  · rw [if_neg h]
    have h3 := Int.emod_nonneg c (b := (n : Int)) hnz
    have e : ((c % (n : Int)).toNat : Int) = c % (n : Int) := by omega
    rw [e]
    go_enter Try.func7, Try.ntmps7
    go_wp2
    go_ret
    refine ⟨?_, rfl⟩
    show Ending.returned (.int .i64 _) = _
    congr 2
    first
      | done
      | (rw [Int.tmod_eq_emod_of_nonneg (by omega)]; done)
      | omega
/-- A step of a script. -/
structure Op8 where
  kind : Int
  id : Int
  vb : Value
  times : Int
  near : Bool
  b : List UInt8
def cells8 (x : Op8) : List Value := [.int .i64 x.kind, .int .i64 x.id, x.vb, .int .i64 x.times, .bool x.near]
structure Op8Ok (w : World) (x : Op8) : Prop where
  kind : -9223372036854775808 ≤ x.kind ∧ x.kind ≤ 9223372036854775807
  id : -9223372036854775808 ≤ x.id ∧ x.id ≤ 9223372036854775807
  times : -9223372036854775808 ≤ x.times ∧ x.times ≤ 9223372036854775807
  b : Bytes w x.vb x.b
  len : x.b.length ≤ 1048576
theorem Op8Ok.keep {w w' : World} {x : Op8} (h : Op8Ok w x) (hb : Below w.heap.size w w') : Op8Ok w' x := { h with b := h.b.keep hb }
def Ops8 (w : World) (v : Value) (rs : List Op8) : Prop :=
  ∃ (ao : Option Addr) (cap : Nat), v = .slice ao rs.length cap ∧ rs.length ≤ cap ∧ (rs = [] ∨ ∃ g o, ao = some ⟨g, o, none⟩ ∧ ∀ k (h : k < rs.length), w.rangeAt g (o + k * 5) (cells8 rs[k]))
/-- The bytes of a step. -/
def repB (x : Op8) : List UInt8 := (List.replicate (1 + pickN x.times 40) x.b).flatten
def repK (x : Op8) (k : Nat) : List UInt8 := (List.replicate k x.b).flatten
theorem repK_succ (x : Op8) (k : Nat) : repK x (k + 1) = repK x k ++ x.b := by
  unfold repK
  rw [List.replicate_succ', List.flatten_append]
  simp
theorem repK_len (x : Op8) (k : Nat) : (repK x k).length = k * x.b.length := by
  induction k with
  | zero => simp [repK]
  | succ k ih => rw [repK_succ, List.length_append, ih, Nat.succ_mul]
theorem repB_len (x : Op8) (h : x.b.length ≤ 1048576) : (repB x).length ≤ 41943040 := by
  show (repK x (1 + pickN x.times 40)).length ≤ _
  rw [repK_len]
  have := pickN_lt x.times 40 (by omega)
  calc (1 + pickN x.times 40) * x.b.length ≤ 40 * 1048576 := Nat.mul_le_mul (by omega) h
    _ = 41943040 := rfl
theorem app_nil0 (w : World) (ty : TypeId) (vo : Option Addr) (vc : Nat) : (Builtin.append_ #[30, 30] ty #[.slice none 0 0, .slice vo 0 vc]).run Try.prog w = .ok (.slice none 0 0) w := by
  obtain ⟨i0, hi, hz0, hz1, hz2⟩ := info_parts infoB
  cases vo with
  | none => simp [Builtin.append_, run_underlying Try.underlying30, sizeOf, typeInfo, hi, Builtin.lenOf, Builtin.firstCells, storeCells]
  | some ad => simp [Builtin.append_, run_underlying Try.underlying30, sizeOf, typeInfo, hi, Builtin.lenOf, Builtin.firstCells, storeCells, loadCells, loadCellsFrom]
theorem wp_app0 (w : World) {ops : Array Oper} {rest : List Oper} {o : Oper} {a : Act} {Q : Exit → Act → World → Prop} (hgd : o.guard = none) (s x : Operand)
    (ho : o.op = .call { callee := .builtin .append, args := #[s, x], argTypes := #[30, 30] }) (hs : a.eval s = .slice none 0 0) (vo : Option Addr) (vc : Nat) (hx : a.eval x = .slice vo 0 vc)
    (h : wpList Try.prog ops Q rest (a.put o.dst (.slice none 0 0)) w) : wpList Try.prog ops Q (o :: rest) a w := by
  refine wpList_plain hgd fun K hK => ?_
  unfold Oper.wp execOp
  simp only [ho, resolve, invoke, builtin, Sem.run_bind, Sem.run_pure, Result.andThen_ok, List.map_toArray, List.map_cons, List.map_nil, hs, hx, app_nil0]
  exact hK _ _ h
/-- The cells of a step in a box. -/
structure Box8 (w : World) (B : Nat) (x : Op8) : Prop where
  hb : w.heap[B]? = some (.cells (cells8 x).toArray 32 (0, 0))
theorem Box8.cells {w : World} {B : Nat} {x : Op8} (h : Box8 w B x) : w.cell? ⟨B, 0, none⟩ = some (.int .i64 x.kind) ∧ w.cell? ⟨B, 1, none⟩ = some (.int .i64 x.id) ∧ w.cell? ⟨B, 2, none⟩ = some x.vb ∧ w.cell? ⟨B, 3, none⟩ = some (.int .i64 x.times) ∧ w.cell? ⟨B, 4, none⟩ = some (.bool x.near) := by
  refine ⟨?_, ?_, ?_, ?_, ?_⟩ <;> (rw [cell_of_row w B _ _ _ _ h.hb]; rfl)
theorem Box8.keep {w w' : World} {B : Nat} {x : Op8} (h : Box8 w B x) (hb : Below w.heap.size w w') : Box8 w' B x := ⟨(hb.block B (Array.getElem?_eq_some_iff.1 h.hb).1).trans h.hb⟩
theorem Box8.fr {w w' : World} {B : Nat} {x : Op8} {S : Nat → Prop} (h : Box8 w B x) (hf : Fr w w' S) (hn : ¬ S B) : Box8 w' B x := ⟨(hf.block B (Array.getElem?_eq_some_iff.1 h.hb).1 hn).trans h.hb⟩
set_option maxHeartbeats 1000000 in
theorem bytes8 {w : World} {x : Op8} (h : Op8Ok w x) :
    Calls Try.prog 19 #[.agg #[.int .i64 x.kind, .int .i64 x.id, x.vb, .int .i64 x.times, .bool x.near]] w fun e w' => ∃ ao m cp, e = .returned (.slice ao m cp) ∧ OwnB w.heap.size w' (.slice ao m cp) (repB x) ∧ Below w.heap.size w w' := by
  have hb0 : Below w.heap.size w (w.alloc (.cells (cells8 x).toArray 32)) := (Below.refl _ _).alloc (Nat.le_refl _) _
  have b0 : Box8 (w.alloc (.cells (cells8 x).toArray 32)) w.heap.size x := ⟨heap_alloc_new w _⟩
  obtain ⟨ba, bc, hvb, _, _⟩ := h.b.form
  have hcells : (cells8 x).toArray = #[.int .i64 x.kind, .int .i64 x.id, .slice ba x.b.length bc, .int .i64 x.times, .bool x.near] := by unfold cells8; rw [hvb]
  rw [hcells] at hb0 b0
  rw [hvb]
  have hsz : (w.alloc (.cells #[.int .i64 x.kind, .int .i64 x.id, .slice ba x.b.length bc, .int .i64 x.times, .bool x.near] 32)).heap.size = w.heap.size + 1 := by simp
  obtain ⟨wa, hwa⟩ : ∃ wa, w.alloc (.cells #[.int .i64 x.kind, .int .i64 x.id, .slice ba x.b.length bc, .int .i64 x.times, .bool x.near] 32) = wa := ⟨_, rfl⟩
  rw [hwa] at hb0 b0 hsz
  have HBA : Hid (Bytes wa (.slice ba x.b.length bc) x.b) := by rw [← hvb]; exact h.b.keep hb0
  have HVB : Hid (x.vb = .slice ba x.b.length bc) := hvb
  clear hvb hcells
  have hlen := h.len
  have ht := h.times
  obtain ⟨N, hN⟩ : ∃ N, 1 + pickN x.times 40 = N := ⟨_, rfl⟩
  have hN40 : N ≤ 40 := by have := pickN_lt x.times 40 (by omega); omega
  have hN1 : (1 : Int) + (pickN x.times 40 : Int) = (N : Int) := by omega
  have hRB : repB x = repK x N := by unfold repB repK; rw [hN]
  rw [hRB]
  have HRS : Hid (∀ k, repK x (k + 1) = repK x k ++ x.b) := repK_succ x
  have HRL : Hid (∀ k, (repK x k).length = k * x.b.length) := repK_len x
  have hpk := fun w => pick8 x.times 40 w ht (by omega) (by omega)
  have HOW : Hid (OwnB (w.heap.size + 1) wa (.slice none 0 0) (repK x 0)) := World.ownsRow_nil _ _ _ _
  have HB : Hid (Box8 wa w.heap.size x) := b0
  obtain ⟨M, hM⟩ : ∃ M, x.b.length = M := ⟨_, rfl⟩
  have HM : Hid (x.b.length = M) := hM
  rw [hM] at hwa HBA HVB hlen ⊢
  clear b0 h hRB hM
  go_enter Try.func19, Try.ntmps19
  go_wp2
  go_loopw [4, 3] (fun i v wr => ∃ (k : Nat) (ao : Option Addr) (m cp : Nat), k ≤ N ∧ i = .int .i64 k ∧ v = .slice ao m cp ∧ Hid (OwnB (w.heap.size + 1) wr (.slice ao m cp) (repK x k)) ∧ Hid (M = 0 → Value.slice ao m cp = .slice none 0 0) ∧ Below wa.heap.size wa wr) (fun i _ _ => N - (intOf i).toNat)
  case atStart => exact ⟨0, none, 0, 0, Nat.zero_le _, rfl, rfl, HOW.out, fun _ => rfl, Below.refl _ _⟩
  case round =>
    obtain ⟨k, ao, m, cp, hk, rfl, rfl, HO, HZ, hb⟩ := hrel
    obtain ⟨c0, c1, c2, c3, c4⟩ := (HB.out.keep hb).cells
    rw [HVB.out] at c2
    have hs := hb.size
    by_cases hlt : k < N
    · have hBr := HBA.out.keep hb
      by_cases h0 : M = 0
      · subst h0
        have HR0 : Hid (∀ k, repK x k = []) := fun k => List.eq_nil_of_length_eq_zero (by rw [HRL.out, HM.out, Nat.mul_zero])
        have hO0 := HO.out
        rw [HR0.out] at hO0
        have hv := HZ.out rfl
        · cases hv
          have HO2 : Hid (OwnB (w.heap.size + 1) wr (.slice none 0 0) (repK x (k + 1))) := by rw [HR0.out]; exact World.ownsRow_nil _ _ _ _
          clear HO hO0 HBA hBr hN HR0 HRS HRL
          go_wp2_with (first
            | (go_at_call 7; refine (hpk _).mono ?_; rintro e wx ⟨rfl, hwx⟩; rw [hwx]; clear hwx wx)
            | (at_builtin; refine wp_app0 _ rfl _ _ rfl rfl ba bc rfl ?_))
          go_roundw
          case rel => exact ⟨k + 1, none, 0, 0, by omega, by first | go_num | (congr 1; omega), rfl, HO2.out, fun _ => rfl, hb⟩
          case measure => simp [intOf]; omega
      · obtain ⟨a, rfl, hx⟩ : ∃ a, ba = some a ∧ ∀ j (hj : j < x.b.length), wr.cell? (a.add j) = some (bv x.b[j]) := by
          rcases hBr with ⟨h', _⟩ | ⟨a, cap', h', _, h2⟩
          · cases h'; exact absurd rfl h0
          · cases h'; exact ⟨a, rfl, h2⟩
        have HX : Hid (∀ j (hj : j < x.b.length), wr.cell? (a.add j) = some (bv x.b[j])) := hx
        have hl1 := HRL.out k
        rw [HM.out] at hl1
        have hl2 : (repK x k).length + M ≤ 140737488355328 := by
          rw [hl1]
          have : k * M ≤ 40 * 1048576 := Nat.mul_le_mul (by omega) hlen
          omega
        clear hBr hx hl1
        go_wp2_with (first
          | (go_at_call 7; refine (hpk _).mono ?_; rintro e wx ⟨rfl, hwx⟩; rw [hwx]; clear hwx wx)
          | (at_builtin; refine wp_appA _ rfl _ _ rfl (w.heap.size + 1) _ (repK x k) rfl HO.out a M bc x.b rfl HX.out HM.out (by omega) hl2 (by omega) ?_))
        intro v' w3 ho3 hg3
        obtain ⟨ao3, cp3, hv3, _, _⟩ := ho3.toBytes.form
        have HO3 : Hid (OwnB (w.heap.size + 1) w3 v' (repK x (k + 1))) := by rw [HRS.out]; exact ho3
        have hb3 : Below wa.heap.size wa w3 := hb.grown hg3.grown hs (fun k' hk' => by have := own_ge HO.out k' hk'; omega)
        generalize (repK x k ++ x.b).length = m3 at *
        subst hv3
        clear HO ho3 hg3 HX HBA hN hl2
        go_wp2
        go_roundw
        case rel => exact ⟨k + 1, ao3, m3, cp3, by omega, by first | go_num | (congr 1; omega), rfl, HO3.out, fun h => absurd h h0, hb3⟩
        case measure => simp [intOf]; omega
    · obtain rfl : k = N := by omega
      have hO : OwnB w.heap.size wr (.slice ao m cp) (repK x k) := own_base HO.out (by omega)
      have hb2 : Below w.heap.size w wr := hb0.trans (hb.mono (by omega))
      clear HO HOW hN
      go_wp2_with (go_at_call 7; refine (hpk _).mono ?_; rintro e wx ⟨rfl, hwx⟩; rw [hwx]; clear hwx wx)
      go_ret
      exact ⟨ao, m, cp, rfl, hO, hb2⟩
end Go.Proofs.Ytkmgahembhgloaa
