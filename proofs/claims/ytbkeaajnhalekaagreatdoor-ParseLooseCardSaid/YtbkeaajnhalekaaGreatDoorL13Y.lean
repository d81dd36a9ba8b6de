/- The document's text. -/
import Derived.Test.YtbkeaajnhalekaaGreatDoorL13X
import Derived.Test.YtbkeaajnhalekaaGreatDoorS13
namespace Go.Proofs.YtbkeaajnhalekaaGreatDoor
open Go.RowKit
set_option linter.unusedVariables false
set_option linter.unusedSimpArgs false

theorem isTx_I (c : UInt8) : isTx c = (decide (32 ≤ (c.toNat : Int)) && decide ((c.toNat : Int) ≤ 126)) := by
  have : ∀ n : Fin 256, isTx (UInt8.ofNat n.val) = (decide (32 ≤ ((UInt8.ofNat n.val).toNat : Int)) && decide (((UInt8.ofNat n.val).toNat : Int) ≤ 126)) := by decide +kernel
  have h := this ⟨c.toNat, c.toNat_lt⟩
  simpa only [UInt8.ofNat_toNat] using h
/-- Where the document's text stands. -/
structure TX (w0 wr : World) (s : ByteArray) (i k : Nat) (v : Value) (xs : List UInt8) : Prop where
  own : OwnB w0.heap.size wr v xs
  bl : Below w0.heap.size w0 wr
  tx : txN (rest s (i + 1)) = (txN (rest s k)).map fun x => (xs ++ x.1, x.2 + (k - (i + 1)))
  len : xs.length ≤ k
  ge : i + 1 ≤ k
theorem txN_ne {c : UInt8} {r : List UInt8} (h : c ≠ 39) : txN (c :: r) = (txN r).map fun p => (c :: p.1, p.2 + 1) := by
  rw [txN.eq_def]
  have : (c == 39) = false := by simpa using h
  simp [this]
theorem TX.plain {w0 wr wr' : World} {s : ByteArray} {i k : Nat} {v v' : Value} {xs : List UInt8} (h : TX w0 wr s i k v xs) (hk : k < s.size) (hc : s[k] ≠ 39) (ho : OwnB w0.heap.size wr' v' (xs ++ [s[k]])) (hb : Below w0.heap.size wr wr') : TX w0 wr' s i (k + 1) v' (xs ++ [s[k]]) := by
  refine ⟨ho, h.bl.trans hb, ?_, by have := h.len; simp; omega, by have := h.ge; omega⟩
  have := h.ge
  rw [h.tx, rest_at s hk, txN_ne hc]
  cases txN (rest s (k + 1)) with
  | none => rfl
  | some x => simp; omega
theorem TX.two {w0 wr wr' : World} {s : ByteArray} {i k : Nat} {v v' : Value} {xs : List UInt8} (h : TX w0 wr s i k v xs) (hk : k + 1 < s.size) (hc : s[k] = 39) (hd : s[k + 1] = 39) (ho : OwnB w0.heap.size wr' v' (xs ++ [39])) (hb : Below w0.heap.size wr wr') : TX w0 wr' s i (k + 1 + 1) v' (xs ++ [39]) := by
  refine ⟨ho, h.bl.trans hb, ?_, by have := h.len; simp; omega, by have := h.ge; omega⟩
  have := h.ge
  rw [h.tx, rest_at s (show k < s.size by omega), rest_at s hk, hc, hd, txN_two]
  cases txN (rest s (k + 1 + 1)) with
  | none => rfl
  | some x => simp; omega
theorem TX.done {w0 wr : World} {s : ByteArray} {i k : Nat} {v : Value} {xs : List UInt8} (h : TX w0 wr s i k v xs) (hk : k < s.size) (hc : s[k] = 39) (hd : ∀ h : k + 1 < s.size, s[k + 1] ≠ 39) : txS (rest s (i + 1)) = if xs.all isTx then if 400 < xs.length then .no 3 else .tk 2 xs 0 (k + 1 - i) else .no 1 := by
  have hge := h.ge
  have hn : ([39] : List UInt8).isPrefixOf (rest s (k + 1)) = false := by
    by_cases hk1 : k + 1 < s.size
    · rw [rest_at s hk1]
      have := hd hk1
      simp only [List.isPrefixOf, Bool.and_true, beq_eq_false_iff_ne]
      exact fun e => this e.symm
    · rw [rest_end s (by omega)]
      rfl
  have e : txN (rest s (i + 1)) = some (xs, k - i) := by
    rw [h.tx, rest_at s hk, hc, txN_last hn]
    simp; omega
  unfold txS
  rw [e]
  simp only
  rw [show k - i + 1 = k + 1 - i by omega]
theorem TX.open_ {w0 wr : World} {s : ByteArray} {i k : Nat} {v : Value} {xs : List UInt8} (h : TX w0 wr s i k v xs) (hk : s.size ≤ k) : txS (rest s (i + 1)) = .no 1 := by
  unfold txS
  rw [h.tx, rest_end s hk]
  rfl
theorem tok_box0 (w : World) (W : World) (hW : Below (w.alloc (.cells #[.int .i64 0, .string ⟨#[]⟩, .int .i64 0, .int .i64 0] 41)).heap.size (w.alloc (.cells #[.int .i64 0, .string ⟨#[]⟩, .int .i64 0, .int .i64 0] 41)) W) : W.cell? ⟨w.heap.size, 0, none⟩ = some (.int .i64 0) ∧ W.cell? ⟨w.heap.size, 1, none⟩ = some (.string ⟨#[]⟩) ∧ W.cell? ⟨w.heap.size, 2, none⟩ = some (.int .i64 0) ∧ W.cell? ⟨w.heap.size, 3, none⟩ = some (.int .i64 0) ∧ (∀ o, W.frozen? ⟨w.heap.size, o, none⟩ = false) := by
  have e : W.heap[w.heap.size]? = some (.cells #[.int .i64 0, .string ⟨#[]⟩, .int .i64 0, .int .i64 0] 41) := (hW.block w.heap.size (by simp)).trans (heap_alloc_new w _)
  refine ⟨by rw [cell_of_row W _ 0 _ _ _ e]; rfl, by rw [cell_of_row W _ 1 _ _ _ e]; rfl, by rw [cell_of_row W _ 2 _ _ _ e]; rfl, by rw [cell_of_row W _ 3 _ _ _ e]; rfl, fun o => by simp [World.frozen?, e]⟩
set_option maxHeartbeats 4000000 in
set_option maxRecDepth 100000 in
theorem text_ref (s : ByteArray) (hs : s.size ≤ 10000) {i : Nat} (hi : i < s.size) (w : World) : Calls Tryz.prog 30 #[.string s, .int .i64 i] w fun e w' => DTo (txS (rest s (i + 1))) i e ∧ Below w.heap.size w w' := by
  obtain ⟨o, ho⟩ : ∃ o, o = txS (rest s (i + 1)) := ⟨_, rfl⟩
  rw [← ho]
  have HOO := Go.Proofs.YtbkeaajnhalekaaGreatDoor.Hid.mk' ho
  clear ho
  go_enter Tryz.func30, Tryz.ntmps30
  go_wp2_with fail
  have HF := Go.Proofs.YtbkeaajnhalekaaGreatDoor.Hid.mk' (tok_box0 w)
  have HW : Hid (Below w.heap.size w (w.alloc (.cells #[.int .i64 0, .string ⟨#[]⟩, .int .i64 0, .int .i64 0] 41))) := (Below.refl _ _).alloc (Nat.le_refl _) _
  have HSZ : Hid ((w.alloc (.cells #[.int .i64 0, .string ⟨#[]⟩, .int .i64 0, .int .i64 0] 41)).heap.size = w.heap.size + 1) := by show _ = _; simp
  generalize w.alloc (.cells #[.int .i64 0, .string ⟨#[]⟩, .int .i64 0, .int .i64 0] 41) = w0 at *
  go_loopw [7, 8, 9] (fun x7 x8 x9 wr => ∃ (k cap : Nat) (ao : Option Addr) (xs : List UInt8) (g : Bool), x7 = .slice ao xs.length cap ∧ x8 = .bool g ∧ x9 = .int .i64 k ∧ k ≤ s.size ∧ Hid (g = xs.all isTx) ∧ Hid (TX w0 wr s i k (.slice ao xs.length cap) xs)) (fun _ _ x9 _ => s.size - (intOf x9).toNat)
  case atStart => exact ⟨i + 1, 0, none, [], true, rfl, rfl, by go_num, by omega, rfl, ⟨OwnB.nil_ _ _, Below.refl _ _, by cases txN (rest s (i + 1)) <;> simp, by simp, Nat.le_refl _⟩⟩
  case round =>
    rename World => wr
    obtain ⟨k, cap, ao, xs, g, rfl, rfl, rfl, hk, HG, HT⟩ := hrel
    obtain ⟨z0, z1, z2, z3, zf⟩ := HF.out wr HT.out.bl
    have HCW : Hid (Below w.heap.size w wr) := HW.out.trans (HT.out.bl.mono HW.out.size)
    have hxl := HT.out.len
    have hge := HT.out.ge
    by_cases hlt : k < s.size
    · have tl : (k : Int) < (s.size : Int) := by omega
      by_cases h39 : (s[k].toNat : Int) = 39
      · have e39 : s[k] = 39 := (u8_eq (n := 39) (by omega)).1 h39
        by_cases hnx : ∃ h : k + 1 < s.size, (s[k + 1].toNat : Int) = 39
        · obtain ⟨hk1, h39b⟩ := hnx
          have e39b : s[k + 1] = 39 := (u8_eq (n := 39) (by omega)).1 h39b
          have tl1 : (k : Int) + 1 < (s.size : Int) := by omega
          have hown := HT.out.own
          have hbase : w0.heap.size ≤ wr.heap.size := HT.out.bl.size
          have hl6 : xs.length + 1 ≤ 140737488355328 := by omega
          have HTN : Hid (∀ v' w', OwnB w0.heap.size w' v' (xs ++ [39]) → Below w0.heap.size (wr.alloc (.cells #[.int .u8 39] 5)) w' → TX w0 w' s i (k + 1 + 1) v' (xs ++ [39])) := fun v' w' h1 h2 => HT.out.two hk1 e39 e39b h1 (((Below.refl _ _).alloc hbase _).trans h2)
          have HG' : Hid (g = (xs ++ [39]).all isTx) := by
            show _ = _
            rw [List.all_append, ← HG.out]
            simp [show isTx 39 = true from rfl]
          clear HOO HG HF HW HCW HSZ HT z0 z1 z2 z3 zf
          go_wp2_with (at_builtin; refine wp_app1 _ rfl _ _ rfl w0.heap.size _ xs rfl (hown.alloc _) wr.heap.size 39 39 rfl rfl (heap_alloc_new wr _) hl6 (by simp; omega) ?_)
          intro v7 w7 hown7 hb7
          have HT7 := Go.Proofs.YtbkeaajnhalekaaGreatDoor.Hid.mk' (HTN.out v7 w7 hown7 hb7)
          obtain ⟨ao7, cap7, hv7⟩ := hown7.form
          subst hv7
          clear hown7 hb7 HTN hown
          generalize xs ++ [39] = ys at *
          go_wp2_with fail
          go_roundw
          case rel => exact ⟨k + 1 + 1, cap7, ao7, ys, _, rfl, rfl, by go_num, by omega, HG', HT7⟩
          case measure => simp [intOf]; omega
        · have hdone := HOO.out.trans (HT.out.done hlt e39 (fun h e => hnx ⟨h, by rw [e]; rfl⟩))
          have hcb := own_back HT.out.own
          rw [← HG.out] at hdone
          have hcs : (¬ (k : Int) + 1 < (s.size : Int)) ∨ (∃ h : k + 1 < s.size, (k : Int) + 1 < (s.size : Int) ∧ ((s[k + 1].toNat : Int) == 39) = false) := by
            by_cases h : k + 1 < s.size
            · exact Or.inr ⟨h, by omega, by rw [beq_eq_false_iff_ne]; exact fun e => hnx ⟨h, e⟩⟩
            · exact Or.inl (by omega)
          clear HOO HG HF HW HSZ HT hnx
          have hans : (g = false ∧ o = .no 1) ∨ (g = true ∧ (xs.length : Int) > 400 ∧ o = .no 3) ∨ (g = true ∧ ¬ (xs.length : Int) > 400 ∧ o = .tk 2 xs 0 (k + 1 - i)) := by
            cases g with
            | false => exact Or.inl ⟨rfl, by simpa using hdone⟩
            | true =>
              rw [if_pos rfl] at hdone
              by_cases h4 : 400 < xs.length
              · exact Or.inr (Or.inl ⟨rfl, by omega, by rw [hdone, if_pos h4]⟩)
              · exact Or.inr (Or.inr ⟨rfl, by omega, by rw [hdone, if_neg h4]⟩)
          clear hdone
          rcases hans with ⟨rfl, rfl⟩ | ⟨rfl, h4, rfl⟩ | ⟨rfl, h4, rfl⟩
          · have HD : Hid (DTo (.no 1) i (.returned (.tuple #[.agg #[.int .i64 0, .string ⟨#[]⟩, .int .i64 0, .int .i64 0], .int .i64 0, .string ⟨#[52, 50, 54, 48, 49]⟩]))) := rfl
            clear hcb
            rcases hcs with t1 | ⟨h1, t1, t2⟩
            all_goals
              go_wp2_with fail
              refine bodyPost_ret (v := .tuple #[.agg #[.int .i64 0, .string ⟨#[]⟩, .int .i64 0, .int .i64 0], .int .i64 0, .string ⟨#[52, 50, 54, 48, 49]⟩]) ?_ rfl ⟨HD.out, ?_⟩
              · simp [results, Tryz.results30, go_sem, z0, z1, z2, z3]
              · exact (((HCW.out.setCell (p := ⟨w.heap.size, 0, none⟩) (Nat.le_refl _) _).setCell (p := ⟨w.heap.size, 1, none⟩) (Nat.le_refl _) _).setCell (p := ⟨w.heap.size, 2, none⟩) (Nat.le_refl _) _).setCell (p := ⟨w.heap.size, 3, none⟩) (Nat.le_refl _) _
          · have HD : Hid (DTo (.no 3) i (.returned (.tuple #[.agg #[.int .i64 0, .string ⟨#[]⟩, .int .i64 0, .int .i64 0], .int .i64 0, .string ⟨#[50, 50, 48, 48, 49]⟩]))) := rfl
            clear hcb
            rcases hcs with t1 | ⟨h1, t1, t2⟩
            all_goals
              go_wp2_with fail
              refine bodyPost_ret (v := .tuple #[.agg #[.int .i64 0, .string ⟨#[]⟩, .int .i64 0, .int .i64 0], .int .i64 0, .string ⟨#[50, 50, 48, 48, 49]⟩]) ?_ rfl ⟨HD.out, ?_⟩
              · simp [results, Tryz.results30, go_sem, z0, z1, z2, z3]
              · exact (((HCW.out.setCell (p := ⟨w.heap.size, 0, none⟩) (Nat.le_refl _) _).setCell (p := ⟨w.heap.size, 1, none⟩) (Nat.le_refl _) _).setCell (p := ⟨w.heap.size, 2, none⟩) (Nat.le_refl _) _).setCell (p := ⟨w.heap.size, 3, none⟩) (Nat.le_refl _) _
          · have HD : Hid (DTo (.tk 2 xs 0 (k + 1 - i)) i (.returned (.tuple #[.agg #[.int .i64 2, .string ⟨xs.toArray⟩, .int .i64 0, .int .i64 i], .int .i64 ((k : Int) + 1 - i), .string ⟨#[48, 48, 48, 48, 48]⟩]))) := by
              show _ = _
              rw [show (((k + 1 - i : Nat) : Int)) = (k : Int) + 1 - i by omega]
            generalize (⟨xs.toArray⟩ : ByteArray) = tb at *
            rcases hcs with t1 | ⟨h1, t1, t2⟩
            all_goals
              go_wp2_with fail
              refine bodyPost_ret (v := .tuple #[.agg #[.int .i64 2, .string tb, .int .i64 0, .int .i64 i], .int .i64 ((k : Int) + 1 - i), .string ⟨#[48, 48, 48, 48, 48]⟩]) ?_ rfl ⟨HD.out, ?_⟩
              · simp [results, Tryz.results30, go_sem, z0, z1, z2, z3]
              · exact (((HCW.out.setCell (p := ⟨w.heap.size, 0, none⟩) (Nat.le_refl _) _).setCell (p := ⟨w.heap.size, 1, none⟩) (Nat.le_refl _) _).setCell (p := ⟨w.heap.size, 2, none⟩) (Nat.le_refl _) _).setCell (p := ⟨w.heap.size, 3, none⟩) (Nat.le_refl _) _
      · have e39 : s[k] ≠ 39 := fun e => h39 (by rw [e]; rfl)
        have h39' : ((s[k].toNat : Int) == 39) = false := by simpa using h39
        have hgc : ∃ g', Hid (g' = (xs ++ [s[k]]).all isTx) ∧ ((g = false ∧ g' = false) ∨ (g = true ∧ ¬ 32 ≤ (s[k].toNat : Int) ∧ g' = false) ∨ (g = true ∧ 32 ≤ (s[k].toNat : Int) ∧ ¬ (s[k].toNat : Int) ≤ 126 ∧ g' = false) ∨ (g = true ∧ 32 ≤ (s[k].toNat : Int) ∧ (s[k].toNat : Int) ≤ 126 ∧ g' = true)) := by
          refine ⟨_, rfl, ?_⟩
          rw [List.all_append, ← HG.out]
          simp only [List.all_cons, List.all_nil, Bool.and_true]
          rw [isTx_I]
          cases g with
          | false => exact Or.inl ⟨rfl, rfl⟩
          | true =>
            by_cases a1 : 32 ≤ (s[k].toNat : Int)
            · by_cases a2 : (s[k].toNat : Int) ≤ 126
              · exact Or.inr (Or.inr (Or.inr ⟨rfl, a1, a2, by simp [a1, a2]⟩))
              · exact Or.inr (Or.inr (Or.inl ⟨rfl, a1, a2, by simp [a1, a2]⟩))
            · exact Or.inr (Or.inl ⟨rfl, a1, by simp [a1]⟩)
        obtain ⟨g', HG', hgs⟩ := hgc
        have hown := HT.out.own
        have hbase : w0.heap.size ≤ wr.heap.size := HT.out.bl.size
        have hl6 : xs.length + 1 ≤ 140737488355328 := by omega
        have HTN : Hid (∀ v' w', OwnB w0.heap.size w' v' (xs ++ [s[k]]) → Below w0.heap.size (wr.alloc (.cells #[.int .u8 (s[k].toNat : Int)] 5)) w' → TX w0 w' s i (k + 1) v' (xs ++ [s[k]])) := fun v' w' h1 h2 => HT.out.plain hlt e39 h1 (((Below.refl _ _).alloc hbase _).trans h2)
        clear HOO HG HF HW HCW HSZ HT z0 z1 z2 z3 zf
        rcases hgs with ⟨rfl, rfl⟩ | ⟨rfl, a1, rfl⟩ | ⟨rfl, a1, a2, rfl⟩ | ⟨rfl, a1, a2, rfl⟩
        all_goals
          go_wp2_with (at_builtin; refine wp_app1 _ rfl _ _ rfl w0.heap.size _ xs rfl (hown.alloc _) wr.heap.size s[k] (s[k].toNat : Int) rfl rfl (heap_alloc_new wr _) hl6 (by simp; omega) ?_)
          intro v7 w7 hown7 hb7
          have HT7 := Go.Proofs.YtbkeaajnhalekaaGreatDoor.Hid.mk' (HTN.out v7 w7 hown7 hb7)
          obtain ⟨ao7, cap7, hv7⟩ := hown7.form
          subst hv7
          clear hown7 hb7 HTN hown
          generalize xs ++ [s[k]] = ys at *
          go_wp2_with fail
          go_roundw
          case rel => exact ⟨k + 1, cap7, ao7, ys, _, rfl, rfl, by go_num, by omega, HG', HT7⟩
          case measure => simp [intOf]; omega
    · have tl : ¬ (k : Int) < (s.size : Int) := by omega
      have hsg := HOO.out.trans (HT.out.open_ (by omega))
      subst hsg
      have HD : Hid (DTo (.no 1) i (.returned (.tuple #[.agg #[.int .i64 0, .string ⟨#[]⟩, .int .i64 0, .int .i64 0], .int .i64 0, .string ⟨#[52, 50, 54, 48, 49]⟩]))) := rfl
      clear HOO HG HF HW HSZ HT
      go_wp2_with fail
      refine bodyPost_ret (v := .tuple #[.agg #[.int .i64 0, .string ⟨#[]⟩, .int .i64 0, .int .i64 0], .int .i64 0, .string ⟨#[52, 50, 54, 48, 49]⟩]) ?_ rfl ⟨HD.out, ?_⟩
      · simp [results, Tryz.results30, go_sem, z0, z1, z2, z3]
      · exact (((HCW.out.setCell (p := ⟨w.heap.size, 0, none⟩) (Nat.le_refl _) _).setCell (p := ⟨w.heap.size, 1, none⟩) (Nat.le_refl _) _).setCell (p := ⟨w.heap.size, 2, none⟩) (Nat.le_refl _) _).setCell (p := ⟨w.heap.size, 3, none⟩) (Nat.le_refl _) _
end Go.Proofs.YtbkeaajnhalekaaGreatDoor
