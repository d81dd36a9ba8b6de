/- Well, New, no tree, a live question. -/
import Derived.Test.YtfobcnmhghfanaaB9ZE
import Derived.Test.YtfobcnmhghfanaaB9ZB
namespace Go.Proofs.Ytfobcnmhghfanaa
open Go.RowKit Go.Shelf
set_option linter.unusedVariables false
set_option linter.unusedSimpArgs false

theorem height_any {base : Nat} {ro : Ro} {nd : Nat → Nd} {r H : Nat} {lv : Nat → List Br} {dep : Nat → Nat} {ob : Nat} (hro : ro ob = none) (hH : H ≤ 900000) : ∀ (k j : Nat), j + k = H → ∀ (w : World) (q : Br) (f : Nat), TS base w ro nd r H lv dep → q ∈ lv j → OB w ob (q.1, false) → f ≤ (nd q.2).sz → f ≤ 4 →
    Calls Try.prog 27 #[pt q.2, .int .i64 f, pt ob] w fun e w' => HtOut w ob ((k : Int) + 1) (lastI (U nd k q)) e w'
  | 0, j, hk, w, q, f, ts, hq, hob, hf, hf4 => by
    have := height_leaf ts (by rw [← hk]; exact hq) hro hob f hf hf4
    simpa using this
  | k + 1, j, hk, w, q, f, ts, hq, hob, hf, hf4 => by
    have := height_inner ts hk (by omega) hq hro hob f hf hf4 (fun w' q' ts' hq' hob' => height_any hro hH k (j + 1) (by omega) w' q' 4 ts' hq' hob' (ts'.sz (j + 1) (by omega) (by omega) q' hq').1 (by omega))
    simpa using this
theorem build_ord (w : World) : (Instr.build 61 #[]).run Try.prog w = .ok (.agg #[.string ByteArray.empty, .bool false]) w := by kernel_rfl
theorem Fr.to_below {w w1 w' : World} {ob : Nat} (h1 : Below w.heap.size w w1) (hf : Fr w1 w' (fun k => k = ob)) (ho : w.heap.size ≤ ob) : Below w.heap.size w w' := h1.trans (hf.below h1.size (fun k hk => by omega))
set_option maxHeartbeats 1000000 in
theorem twell_any {base : Nat} {w : World} {ro : Ro} {p : Value} {L : List E} (h : TreeAt base w ro p L) (hlen : L.length ≤ 900000) :
    Calls Try.prog 13 #[p] w fun e w' => e = .returned (.bool true) ∧ Below w.heap.size w w' := by
  obtain ⟨r, nd, H, lv, dep, rfl, h⟩ := h
  obtain ⟨W1, hW1⟩ : ∃ W1, w.alloc (.cells #[.string ByteArray.empty, .bool false] 61) = W1 := ⟨_, rfl⟩
  have b1 : Below w.heap.size w W1 := by rw [← hW1]; exact (Below.refl _ _).alloc (Nat.le_refl _) _
  have hob : OB W1 w.heap.size (ByteArray.empty, false) := by rw [← hW1]; exact heap_alloc_new w _
  have hro : ro w.heap.size = none := by
    cases hh : ro w.heap.size with
    | none => rfl
    | some y => have := (h.ts.mem.lo _ (by rw [hh]; simp)).2; omega
  have hH : H ≤ 900000 := by have := h.ts.high; rw [h.en] at this; omega
  have hht := height_any hro hH H 0 (by omega) W1 (ByteArray.empty, r) 0 (h.ts.below b1) (by rw [h.ts.sh.top]; simp) hob (by omega) (by omega)
  have hbo := build_ord
  have HB : Hid (∀ w', Fr W1 w' (fun k => k = w.heap.size) → Below w.heap.size w w') := fun w' hf => Fr.to_below b1 hf (Nat.le_refl _)
  simp only at hht
  generalize (H : Int) + 1 = hh at *
  clear h hob hro hH b1
  have hw1 : w.alloc (.cells #[.string ⟨#[]⟩, .bool false] 61) = W1 := hW1
  clear hW1
  go_enter Try.func13, Try.ntmps13
  go_wp2_with (go_at_call 27; refine hht.mono ?_; clear hht; rintro e w2 ⟨he, _, hf2⟩; subst he; have hb2 := HB.out w2 hf2; clear hf2)
  go_ret
  exact ⟨rfl, hb2⟩
theorem build_tree (w : World) : (Instr.build 54 #[]).run Try.prog w = .ok (.agg #[.slice none 0 0, .slice none 0 0, .int .i64 0, .int .i64 0]) w := by kernel_rfl
/-- What New leaves. -/
inductive NwOut (base : Nat) (w : World) (e : Ending) (w' : World) : Prop
  | mk (ro : Ro) (b : Nat) (he : e = .returned (pt b)) (ht : TreeAt base w' ro (pt b) []) (hb : Below w.heap.size w w') (hn : ∀ k, ro k ≠ none → w.heap.size ≤ k)
theorem tnew_any (base : Nat) (w : World) (hb : base ≤ w.heap.size) : Calls Try.prog 8 #[] w fun e w' => NwOut base w e w' := by
  have hbt := build_tree
  obtain ⟨W1, hW1⟩ : ∃ W1, w.alloc (.cells #[.slice none 0 0, .slice none 0 0, .int .i64 0, .int .i64 0] 54) = W1 := ⟨_, rfl⟩
  have b1 : Below w.heap.size w W1 := by rw [← hW1]; exact (Below.refl _ _).alloc (Nat.le_refl _) _
  have hblk : W1.heap[w.heap.size]? = some (.cells #[.slice none 0 0, .slice none 0 0, .int .i64 0, .int .i64 0] 54 (0, 0)) := by rw [← hW1]; exact heap_alloc_new w _
  have hlt : w.heap.size < W1.heap.size := (Array.getElem?_eq_some_iff.1 hblk).1
  have HO : Hid (NwOut base w (.returned (pt w.heap.size)) W1) := by
    let r := w.heap.size
    let nd : Nat → Nd := fun _ => ⟨[], [], .slice none 0 0, .slice none 0 0, [.int .i64 0, .int .i64 0], 54⟩
    let ro : Ro := fun k => if k = r then some (r, 0) else none
    let lv : Nat → List Br := fun _ => [(ByteArray.empty, r)]
    have hror : ∀ k, ro k ≠ none → k = r := fun k hk => by
      by_cases e : k = r
      · exact e
      · exact absurd (by show (if k = r then some (r, 0) else none) = none; rw [if_neg e]) hk
    refine .mk ro r rfl ⟨r, nd, 0, lv, fun _ => 0, rfl, ⟨⟨⟨⟨fun b hb' => ?_, fun b hb' => Row.nil_ _ _ _ _ _, fun b hb' => Row.nil_ _ _ _ _ _, fun b hb' k hk => (by cases hk), fun b hb' k hk => (by cases hk), fun k hk => ?_⟩, ⟨rfl, fun j hj => by omega, fun j hj p hp => ?_, fun j hj => ?_, fun j hj => by omega, fun p hp => rfl, ?_⟩, fun j hj p hp => ?_⟩, ⟨fun j h0 hj => by omega, by simp [nd, Nd.sz]⟩⟩, rfl, rfl, rfl, fun h0 => by omega⟩⟩ b1 (fun k hk => by have := hror k hk; omega)
    · have := hror b (by rw [hb']; simp)
      rw [this]; exact hblk
    · have := hror k hk
      rw [this]; exact ⟨hb, hlt⟩
    · omega
    · simp [lv]
    · simp [lv, nd, its]
    · simp [lv] at hp
      rw [hp]; show (if r = r then some (r, 0) else none) = _; rw [if_pos rfl]
  clear b1 hblk hlt
  go_enter Try.func8, Try.ntmps8
  go_wp2
  go_ret
  exact HO.out
/-- No tree. -/
theorem nget (key : ByteArray) (w : World) : Calls Try.prog 20 #[.pointer none, .string key] w fun e w' => e = .returned (.tuple #[.int .i64 0, .bool false, .int .i64 92]) ∧ w' = w := by
  have h := find_nil key w
  go_enter Try.func20, Try.ntmps20
  go_wp2_with (go_at_call 28; refine h.mono ?_; clear h; rintro e wx ⟨rfl, hwx⟩; rw [hwx]; clear hwx wx)
  refine bodyPost_ret (v := .tuple #[.int .i64 0, .bool false, .int .i64 92]) (by simp [results, Try.results20, go_sem]) rfl ?_
  exact ⟨rfl, rfl⟩
theorem nnext (key : ByteArray) (is : Bool) (w : World) : Calls Try.prog 19 #[.pointer none, .string key, .bool is] w fun e w' => e = .returned (.tuple #[.string ⟨#[]⟩, .int .i64 0, .bool false, .int .i64 92]) ∧ w' = w := by
  have h := seek_nil key is w
  go_enter Try.func19, Try.ntmps19
  go_wp2_with (go_at_call 31; refine h.mono ?_; clear h; rintro e wx ⟨rfl, hwx⟩; rw [hwx]; clear hwx wx)
  refine bodyPost_ret (v := .tuple #[.string ⟨#[]⟩, .int .i64 0, .bool false, .int .i64 92]) (by simp [results, Try.results19, go_sem]) rfl ?_
  exact ⟨rfl, rfl⟩
theorem ncount (w : World) : Calls Try.prog 11 #[.pointer none] w fun e w' => e = .returned (.tuple #[.int .i64 0, .int .i64 0]) ∧ w' = w := by
  go_enter Try.func11, Try.ntmps11
  go_wp2
  refine bodyPost_ret (v := .tuple #[.int .i64 0, .int .i64 0]) (by simp [results, Try.results11, go_sem]) rfl ?_
  exact ⟨rfl, rfl⟩
theorem nwell (w : World) : Calls Try.prog 13 #[.pointer none] w fun e w' => e = .returned (.bool false) ∧ w' = w := by
  go_enter Try.func13, Try.ntmps13
  go_wp2
  go_ret
  exact ⟨rfl, rfl⟩
theorem ninsert (key : ByteArray) (n : Int) (w : World) : Calls Try.prog 14 #[.pointer none, .string key, .int .i64 n] w fun e w' => e = .returned (.int .i64 92) ∧ w' = w := by
  go_enter Try.func14, Try.ntmps14
  go_wp2
  go_ret
  exact ⟨rfl, rfl⟩
theorem nghost (key : ByteArray) (w : World) : Calls Try.prog 15 #[.pointer none, .string key] w fun e w' => e = .returned (.int .i64 92) ∧ w' = w := by
  have h := find_nil key w
  go_enter Try.func15, Try.ntmps15
  go_wp2_with (go_at_call 28; refine h.mono ?_; clear h; rintro e wx ⟨rfl, hwx⟩; rw [hwx]; clear hwx wx)
  go_ret
  exact ⟨rfl, rfl⟩
theorem npurge (key : ByteArray) (w : World) : Calls Try.prog 16 #[.pointer none, .string key] w fun e w' => e = .returned (.int .i64 92) ∧ w' = w := by
  have h := find_nil key w
  go_enter Try.func16, Try.ntmps16
  go_wp2_with (go_at_call 28; refine h.mono ?_; clear h; rintro e wx ⟨rfl, hwx⟩; rw [hwx]; clear hwx wx)
  go_ret
  exact ⟨rfl, rfl⟩
end Go.Proofs.Ytfobcnmhghfanaa
