/- Package disk: no disk; the law's live question. -/
import Derived.Test.YtggkclnnneoohaaD5F
import Derived.Lib.SlBytesConst
namespace Go.Proofs.Ytggkclnnneoohaa
open Go.RowKit Go.Maps
set_option linter.unusedVariables false
set_option linter.unusedSimpArgs false

theorem nil_sync (w : World) : Calls Try.prog 11 #[.pointer none] w fun e w' => e = .returned (.tuple #[]) ∧ w' = w := by
  go_enter Try.func11, Try.ntmps11
  go_wp2
  exact bodyPost_end (v := .tuple #[]) (by simp [results, Try.results11, go_sem]) rfl ⟨rfl, rfl⟩
theorem nil_read (i : Int) (w : World) : Calls Try.prog 13 #[.pointer none, .int .i64 i] w fun e w' => e = .returned (.tuple #[.slice none 0 0, .int .i64 1]) ∧ w' = w := by
  go_enter Try.func13, Try.ntmps13
  go_wp2
  exact bodyPost_ret (v := .tuple #[.slice none 0 0, .int .i64 1]) (by simp [results, Try.results13, go_sem]) rfl ⟨rfl, rfl⟩
theorem nil_write (i : Int) (v : Value) (w : World) : Calls Try.prog 9 #[.pointer none, .int .i64 i, v] w fun e w' => e = .returned (.int .i64 1) ∧ w' = w := by
  go_enter Try.func9, Try.ntmps9
  go_wp2
  go_ret
  exact ⟨rfl, rfl⟩
theorem nil_size (w : World) : Calls Try.prog 23 #[.pointer none] w fun e w' => e = .returned (.int .i64 0) ∧ w' = w := by
  go_enter Try.func23, Try.ntmps23
  go_wp2
  go_ret
  exact ⟨rfl, rfl⟩
theorem nil_pending (w : World) : Calls Try.prog 22 #[.pointer none] w fun e w' => e = .returned (.int .i64 0) ∧ w' = w := by
  go_enter Try.func22, Try.ntmps22
  go_wp2
  go_ret
  exact ⟨rfl, rfl⟩
theorem nil_writes (w : World) : Calls Try.prog 24 #[.pointer none] w fun e w' => e = .returned (.int .i64 0) ∧ w' = w := by
  go_enter Try.func24, Try.ntmps24
  go_wp2
  go_ret
  exact ⟨rfl, rfl⟩
theorem nil_cut (v : Value) (w : World) : Calls Try.prog 16 #[.pointer none, v] w fun e w' => e = .returned (.pointer none) ∧ w' = w := by
  go_enter Try.func16, Try.ntmps16
  go_wp2
  go_ret
  exact ⟨rfl, rfl⟩
theorem nil_cutAt (i : Int) (v : Value) (w : World) : Calls Try.prog 18 #[.pointer none, .int .i64 i, v] w fun e w' => e = .returned (.pointer none) ∧ w' = w := by
  go_enter Try.func18, Try.ntmps18
  go_wp2
  go_ret
  exact ⟨rfl, rfl⟩
theorem bytes_new2 (w : World) (a b : UInt8) : Bytes (w.alloc (.cells #[bv a, bv b] 5 (2, 3))) (.slice (some ⟨w.heap.size, 0, none⟩) 2 2) [a, b] := by
  refine Or.inr ⟨⟨w.heap.size, 0, none⟩, 2, rfl, by simp, fun j hj => ?_⟩
  rw [Addr.add_mid, cell_of_row _ _ (0 + j) _ _ _ (heap_alloc_new w _)]
  match j, hj with
  | 0, _ => rfl
  | 1, _ => rfl
theorem row_first {w : World} {k : Nat} {s : List UInt8} {c : UInt8} (h : RowB w k s) (h0 : s[0]? = some c) : w.cell? ⟨k, 0, none⟩ = some (.int .u8 c.toNat) := by
  rw [cell_of_row w k 0 _ _ _ h]; simp [h0, bv]

theorem conv_two (w : World) (a b : UInt8) : (convert 32 32 (.slice (some ⟨w.heap.size, 0, none⟩) 2 2)).run Try.prog (w.alloc (.cells #[bv a, bv b] 5)) = .ok (.slice (some ⟨w.heap.size, 0, none⟩) 2 2) (w.alloc (.cells #[bv a, bv b] 5 (2, 3))) :=
  Lib.run_convert_bytes_const w 32 5 #[bv a, bv b] 2 2 Try.underlying32 Try.underlying5
theorem step_below {B : Nat} {w0 w w' : World} {F : Nat → Prop} (h : Below B w0 w) (hf : Fr w w' F) (hF : ∀ k, F k → B ≤ k) (hB : B ≤ w.heap.size) : Below B w0 w' := h.trans (hf.below hB hF)
set_option maxHeartbeats 2000000 in
theorem alive_any (w : World) : Calls Try.prog 8 #[] w fun e w' => e = .returned (.bool true) ∧ Below w.heap.size w w' := by
  go_enter Try.func8, Try.ntmps8
  go_wp2_with fail
  refine (new_any 4 w (by omega)).mono ?_
  rintro e w1 ⟨g, rfl, hD1, hb1⟩
  have hcv1 : (convert 32 32 (.slice (some ⟨w1.heap.size, 0, none⟩) 2 2)).run Try.prog (w1.alloc (.cells #[.int .u8 97, .int .u8 98] 5)) = .ok (.slice (some ⟨w1.heap.size, 0, none⟩) 2 2) (w1.alloc (.cells #[.int .u8 97, .int .u8 98] 5 (2, 3))) := conv_two w1 97 98
  go_wp2_with fail
  clear hcv1
  have ha1 : Below w1.heap.size w1 (w1.alloc (.cells #[.int .u8 97, .int .u8 98] 5 (2, 3))) := (Below.refl _ _).alloc (Nat.le_refl _) _
  refine (write_any (hD1.keepB ha1) 1 (by simp) _ [97, 98] (bytes_new2 w1 97 98) (by simp) (by simp)).mono ?_
  rintro e w2 ⟨rfl, F2, hD2, hf2, hs2⟩
  have hb2 : Below w.heap.size w w2 := step_below (hb1.trans (ha1.mono hb1.size)) hf2 (fun k hk => hk.1) (by have := hb1.size; simp; omega)
  clear ha1 hf2 hs2 hD1
  go_wp2_with fail
  refine (sync_any hD2).mono ?_
  rintro e w3 ⟨rfl, hD3, hf3⟩
  have hb3 : Below w.heap.size w w3 := step_below hb2 hf3 (fun k hk => (hD2.lo k hk).1) hb2.size
  clear hf3 hD2
  have hcv3 : (convert 32 32 (.slice (some ⟨w3.heap.size, 0, none⟩) 2 2)).run Try.prog (w3.alloc (.cells #[.int .u8 99, .int .u8 100] 5)) = .ok (.slice (some ⟨w3.heap.size, 0, none⟩) 2 2) (w3.alloc (.cells #[.int .u8 99, .int .u8 100] 5 (2, 3))) := conv_two w3 99 100
  go_wp2_with fail
  clear hcv3
  have ha3 : Below w3.heap.size w3 (w3.alloc (.cells #[.int .u8 99, .int .u8 100] 5 (2, 3))) := (Below.refl _ _).alloc (Nat.le_refl _) _
  refine (write_any (hD3.keepB ha3) 1 (by simp) _ [99, 100] (bytes_new2 w3 99 100) (by simp) (by simp)).mono ?_
  rintro e w4 ⟨rfl, F4, hD4, hf4, hs4⟩
  have hb4 : Below w.heap.size w w4 := step_below (hb3.trans (ha3.mono hb3.size)) hf4 (fun k hk => (hD3.lo k hk).1) (by have := hb3.size; simp; omega)
  clear ha3 hf4 hs4 hD3
  go_wp2_with fail
  refine (Cut_any hD4 _ [] (Or.inl ⟨rfl, rfl⟩)).mono ?_
  rintro e w5 ⟨c, F5, rfl, hD5, hb5⟩
  have hD4' := hD4.keepB hb5
  have hb5' : Below w.heap.size w w5 := hb4.trans (hb5.mono hb4.size)
  clear hb5 hD4
  go_wp2_with fail
  refine (read_any hD5 1 (by simp [DS.left])).mono ?_
  rintro e w6 ⟨k6, hk6, rfl, hr6, hb6⟩
  have hD6 := hD4'.keepB hb6
  have hb6' : Below w.heap.size w w6 := hb5'.trans (hb6.mono hb5'.size)
  clear hD4' hb6 hb5' hD5
  go_wp2_with fail
  refine (read_any hD6 1 (by simp)).mono ?_
  rintro e w7 ⟨k7, hk7, rfl, hr7, hb7⟩
  have hD7 := hD6.keepB hb7
  have hr6' := hr6.keep hb7
  have hb7' : Below w.heap.size w w7 := hb6'.trans (hb7.mono hb6'.size)
  clear hD6 hb7 hb6' hr6
  have q6 := row_first (c := 97) hr6' (by decide)
  have q7 := row_first (c := 99) hr7 (by decide)
  go_wp2_with fail
  refine (pending_any hD7).mono ?_
  rintro e w8 ⟨rfl, hb8⟩
  have hb8' : Below w.heap.size w w8 := hb7'.trans (hb8.mono hb7'.size)
  clear hb8 q6 q7 hr6' hr7 hD7
  go_wp2
  go_ret
  exact ⟨rfl, hb8'⟩
/-- A step of a script, as it is handed in. -/
structure OpV where
  kind : Int
  i : Int
  vb : Value
  vk : Value
  b : List UInt8
  k : List Bool
def cellsO (x : OpV) : List Value := [.int .i64 x.kind, .int .i64 x.i, x.vb, x.vk]
/-- A script that is read: so many steps, and where they lie. -/
def OpsAt (w : World) (v : Value) (rs : List OpV) : Prop :=
  ∃ (ao : Option Addr) (cap : Nat), v = .slice ao rs.length cap ∧ rs.length ≤ cap ∧ (rs = [] ∨ ∃ g o, ao = some ⟨g, o, none⟩ ∧ ∀ k (h : k < rs.length), w.rangeAt g (o + k * 4) (cellsO rs[k]))
structure OpOk (M : Nat) (w : World) (x : OpV) : Prop where
  kind : -9223372036854775808 ≤ x.kind ∧ x.kind ≤ 9223372036854775807
  i : -9223372036854775808 ≤ x.i ∧ x.i ≤ 9223372036854775807
  b : Bytes w x.vb x.b
  k : Bools w x.vk x.k
  len : x.b.length ≤ M
theorem OpOk.keep {M : Nat} {w w' : World} {x : OpV} (h : OpOk M w x) (hb : Below w.heap.size w w') : OpOk M w' x := ⟨h.kind, h.i, h.b.keep hb, h.k.keep hb, h.len⟩
end Go.Proofs.Ytggkclnnneoohaa
