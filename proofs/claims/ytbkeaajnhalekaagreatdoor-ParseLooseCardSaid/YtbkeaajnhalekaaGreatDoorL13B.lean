/- The document's word. -/
import Derived.Test.YtbkeaajnhalekaaGreatDoorS13
import Derived.Laws.IdiomStrings
import Derived.Deep.MidRow
namespace Go.Proofs.YtbkeaajnhalekaaGreatDoor
open Go.RowKit
set_option linter.unusedVariables false
set_option linter.unusedSimpArgs false

theorem ckeep {w w' : World} {p : Addr} {v : Value} (hb : Below w.heap.size w w') (h : w.cell? p = some v) : w'.cell? p = some v := (hb.cell (World.block_lt_of_cell? w _ h)).trans h
theorem conv1 (w : World) (x : Int) (h : 0 ≤ x ∧ x ≤ 255) : (convert 79 9 (.slice (some ⟨w.heap.size, 0, none⟩) 1 1)).run Tryz.prog (w.alloc (.cells #[.int .u8 x] 5)) = .ok (.string ⟨#[UInt8.ofNat x.toNat]⟩) (w.alloc (.cells #[.int .u8 x] 5)) := by
  refine run_convert_bytes_back _ 79 9 5 ⟨w.heap.size, 0, none⟩ 1 [UInt8.ofNat x.toNat] Tryz.underlying79 Tryz.underlying5 Tryz.underlying9 (fun j hj => ?_)
  rw [Addr.add_mid, cell_of_row _ _ _ _ _ _ (heap_alloc_new w _)]
  match j, hj with
  | 0, _ => simp [UInt8.toNat_ofNat']; omega
/-- The first n bytes behind a place, small. -/
def lows (s : ByteArray) (i n : Nat) : List UInt8 := ((rest s i).take n).map lowc
theorem rest_get (s : ByteArray) {i n : Nat} (h : i + n < s.size) : (rest s i)[n]? = some s[i + n] := by
  unfold rest
  rw [List.getElem?_drop]
  have : i + n < s.data.toList.length := by simpa using h
  rw [List.getElem?_eq_getElem this]
  rfl
theorem lows_succ (s : ByteArray) {i n : Nat} (h : i + n < s.size) : lows s i (n + 1) = lows s i n ++ [lowc s[i + n]] := by
  unfold lows
  rw [List.take_add_one, rest_get s h]
  simp
theorem lows_len (s : ByteArray) {i n : Nat} (h : i + n ≤ s.size) : (lows s i n).length = n := by
  unfold lows
  rw [List.length_map, List.length_take, rest_len]
  omega
theorem wd_end (s : ByteArray) {i n : Nat} (hn : i + n ≤ s.size) (h1 : ∀ j, j < n → ∀ h : i + j < s.size, isWd s[i + j] = true) (h2 : ∀ h : i + n < s.size, isWd s[i + n] = false) : ((rest s i).takeWhile isWd).length = n ∧ ((rest s i).takeWhile isWd).map lowc = lows s i n := by
  have := tw_stop (p := isWd) s s.size i n (by omega) hn h1 h2
  refine ⟨this, ?_⟩
  unfold lows
  rw [← this, tw_pre]
theorem lows_cat (s : ByteArray) {i n : Nat} (h : i + n < s.size) : (⟨(lows s i (n + 1)).toArray⟩ : ByteArray) = ⟨(lows s i n).toArray⟩ ++ ⟨#[UInt8.ofNat (if 65 ≤ (s[i + n].toNat : Int) ∧ (s[i + n].toNat : Int) ≤ 90 then (s[i + n].toNat : Int) + 32 else (s[i + n].toNat : Int)).toNat]⟩ := by
  rw [lows_succ s h]
  have hc : ∀ c : UInt8, UInt8.ofNat (if 65 ≤ (c.toNat : Int) ∧ (c.toNat : Int) ≤ 90 then (c.toNat : Int) + 32 else (c.toNat : Int)).toNat = lowc c := fun c => by
    have : ∀ k : Fin 256, UInt8.ofNat (if 65 ≤ ((UInt8.ofNat k.val).toNat : Int) ∧ ((UInt8.ofNat k.val).toNat : Int) ≤ 90 then ((UInt8.ofNat k.val).toNat : Int) + 32 else ((UInt8.ofNat k.val).toNat : Int)).toNat = lowc (UInt8.ofNat k.val) := by decide +kernel
    have h := this ⟨c.toNat, c.toNat_lt⟩
    simpa only [UInt8.ofNat_toNat] using h
  rw [hc]
  apply ByteArray.ext
  simp
/-- What word comes to. -/
def WdTo (s : ByteArray) (i : Nat) (e : Ending) : Prop := if 32 < ((rest s i).takeWhile isWd).length then e = .returned (.tuple #[.agg #[.int .i64 0, .string ByteArray.empty, .int .i64 0, .int .i64 0], .int .i64 0, .string ⟨#[52, 50, 54, 48, 49]⟩]) else e = .returned (.tuple #[.agg #[.int .i64 0, .string ⟨(((rest s i).takeWhile isWd).map lowc).toArray⟩, .int .i64 0, .int .i64 i], .int .i64 ((rest s i).takeWhile isWd).length, .string ⟨#[48, 48, 48, 48, 48]⟩])
theorem WdTo.long {s : ByteArray} {i n : Nat} (h : ((rest s i).takeWhile isWd).length = n) (h32 : 32 < n) : WdTo s i (.returned (.tuple #[.agg #[.int .i64 0, .string ⟨#[]⟩, .int .i64 0, .int .i64 0], .int .i64 0, .string ⟨#[52, 50, 54, 48, 49]⟩])) := by
  unfold WdTo
  rw [h, if_pos h32]
  rfl
theorem WdTo.ok {s : ByteArray} {i n : Nat} (h : ((rest s i).takeWhile isWd).length = n) (h2 : ((rest s i).takeWhile isWd).map lowc = lows s i n) (h32 : ¬ 32 < n) : WdTo s i (.returned (.tuple #[.agg #[.int .i64 0, .string ⟨(lows s i n).toArray⟩, .int .i64 0, .int .i64 i], .int .i64 n, .string ⟨#[48, 48, 48, 48, 48]⟩])) := by
  unfold WdTo
  rw [h, if_neg h32, h2]
set_option maxRecDepth 100000 in
set_option maxHeartbeats 2000000 in
theorem word_ref (s : ByteArray) (hs : s.size ≤ 10000) {i : Nat} (hi : i < s.size) (w : World) : Calls Tryz.prog 28 #[.string s, .int .i64 i] w fun e w' => WdTo s i e ∧ Below w.heap.size w w' := by
  have hb0 : Below w.heap.size w (w.alloc (.cells #[.int .i64 0, .string ⟨#[]⟩, .int .i64 0, .int .i64 0] 41)) := (Below.refl _ _).alloc (Nat.le_refl _) _
  have hnew := heap_alloc_new w (.cells #[.int .i64 0, .string ⟨#[]⟩, .int .i64 0, .int .i64 0] 41)
  have hsz : (w.alloc (.cells #[.int .i64 0, .string ⟨#[]⟩, .int .i64 0, .int .i64 0] 41)).heap.size = w.heap.size + 1 := by simp
  generalize hw0 : w.alloc (.cells #[.int .i64 0, .string ⟨#[]⟩, .int .i64 0, .int .i64 0] 41) = w0 at *
  have HF : Hid (∀ W, Below w0.heap.size w0 W → W.cell? ⟨w.heap.size, 0, none⟩ = some (.int .i64 0) ∧ W.cell? ⟨w.heap.size, 1, none⟩ = some (.string ⟨#[]⟩) ∧ W.cell? ⟨w.heap.size, 2, none⟩ = some (.int .i64 0) ∧ W.cell? ⟨w.heap.size, 3, none⟩ = some (.int .i64 0) ∧ (∀ o, W.frozen? ⟨w.heap.size, o, none⟩ = false)) := fun W hb => by
    have e := (hb.block w.heap.size (by omega)).trans hnew
    refine ⟨by rw [cell_of_row W _ 0 _ _ _ e]; rfl, by rw [cell_of_row W _ 1 _ _ _ e]; rfl, by rw [cell_of_row W _ 2 _ _ _ e]; rfl, by rw [cell_of_row W _ 3 _ _ _ e]; rfl, fun o => by simp [World.frozen?, e]⟩
  have HW : Hid (Below w.heap.size w w0) := hb0
  have HSZ : Hid (w0.heap.size = w.heap.size + 1) := hsz
  clear hnew hb0 hsz
  go_enter Tryz.func28, Tryz.ntmps28
  go_wp2_with fail
  clear hw0
  go_loopw [7, 8] (fun nv lv wr => ∃ (n : Nat) (b : ByteArray), nv = .int .i64 n ∧ lv = .string b ∧ Hid (b = ⟨(lows s i n).toArray⟩) ∧ i + n ≤ s.size ∧ Hid (∀ j, j < n → ∀ h : i + j < s.size, isWd s[i + j] = true) ∧ Hid (Below w0.heap.size w0 wr)) (fun nv _ _ => s.size - (intOf nv).toNat)
  case atStart => exact ⟨0, _, rfl, rfl, by show _ = _; simp [lows], by omega, fun j hj => by omega, Below.refl _ _⟩
  case round =>
    rename World => wr
    obtain ⟨n, lb, rfl, rfl, HLB, hn, HA, HB⟩ := hrel
    by_cases hlt : i + n < s.size
    · have tl : (i : Int) + (n : Int) < (s.size : Int) := by omega
      have hle := letter_ref (s[i + n].toNat : Int)
      have hdi := digit_ref (s[i + n].toNat : Int)
      rw [ltI_of] at hle
      rw [dgI_of] at hdi
      cases hwd : isWd s[i + n] with
      | false =>
        obtain ⟨hl, hd⟩ : isLt s[i + n] = false ∧ isDg s[i + n] = false := by simpa [isWd] using hwd
        rw [hl] at hle
        rw [hd] at hdi
        obtain ⟨e1, e2⟩ := wd_end s hn HA.out (fun _ => hwd)
        obtain ⟨z0, z1, z2, z3, zf⟩ := HF.out wr HB.out
        have HC : Hid (Below w.heap.size w wr) := HW.out.trans (HB.out.mono HW.out.size)
        go_wp2_with fail
        refine (hle _).mono ?_
        rintro e w1 ⟨rfl, rfl⟩
        go_wp2_with fail
        refine (hdi _).mono ?_
        rintro e w1 ⟨rfl, rfl⟩
        clear hle hdi
        by_cases h32 : 32 < n
        · have t32 : (n : Int) > 32 := by omega
          have HE := WdTo.long e1 h32
          clear e1 e2
          go_wp2_with fail
          refine bodyPost_ret (v := .tuple #[.agg #[.int .i64 0, .string ⟨#[]⟩, .int .i64 0, .int .i64 0], .int .i64 0, .string ⟨#[52, 50, 54, 48, 49]⟩]) ?_ rfl ⟨HE, ?_⟩
          · simp [results, Tryz.results28, go_sem, z0, z1, z2, z3]
          · exact (((HC.out.setCell (p := ⟨w.heap.size, 0, none⟩) (Nat.le_refl _) _).setCell (p := ⟨w.heap.size, 1, none⟩) (Nat.le_refl _) _).setCell (p := ⟨w.heap.size, 2, none⟩) (Nat.le_refl _) _).setCell (p := ⟨w.heap.size, 3, none⟩) (Nat.le_refl _) _
        · have t32 : ¬ (n : Int) > 32 := by omega
          have HE := WdTo.ok e1 e2 h32
          rw [← HLB.out] at HE
          clear e1 e2
          go_wp2_with fail
          refine bodyPost_ret (v := .tuple #[.agg #[.int .i64 0, .string lb, .int .i64 0, .int .i64 i], .int .i64 n, .string ⟨#[48, 48, 48, 48, 48]⟩]) ?_ rfl ⟨HE, ?_⟩
          · simp [results, Tryz.results28, go_sem, z0, z1, z2, z3]
          · exact (((HC.out.setCell (p := ⟨w.heap.size, 0, none⟩) (Nat.le_refl _) _).setCell (p := ⟨w.heap.size, 1, none⟩) (Nat.le_refl _) _).setCell (p := ⟨w.heap.size, 2, none⟩) (Nat.le_refl _) _).setCell (p := ⟨w.heap.size, 3, none⟩) (Nat.le_refl _) _
      | true =>
        have HN : Hid (∀ j, j < n + 1 → ∀ h : i + j < s.size, isWd s[i + j] = true) := fun j hj h => by
          by_cases e : j = n
          · subst e; exact hwd
          · exact HA.out j (by omega) h
        have hld : isLt s[i + n] = true ∨ (isLt s[i + n] = false ∧ isDg s[i + n] = true) := by
          simp only [isWd, Bool.or_eq_true] at hwd
          cases h : isLt s[i + n] with
          | true => exact Or.inl rfl
          | false => rw [h] at hwd; exact Or.inr ⟨rfl, by simpa using hwd⟩
        have hx255 : (0 : Int) ≤ (s[i + n].toNat : Int) ∧ (s[i + n].toNat : Int) ≤ 255 := by
          have := s[i + n].toNat_lt
          omega
        have hlbs : lb.size ≤ 10000 := by
          rw [HLB.out]
          show (lows s i n).toArray.size ≤ 10000
          rw [List.size_toArray, lows_len s hn]
          omega
        have hcat : ¬ 9223372036854775807 < lb.size + 1 := by omega
        have HLS := lows_cat s hlt
        rw [← HLB.out] at HLS
        have HBA : ∀ x : Int, Hid (Below w0.heap.size w0 (wr.alloc (.cells #[.int .u8 x] 5))) := fun x => HB.out.trans (((Below.refl wr.heap.size wr).alloc (Nat.le_refl _) _).mono HB.out.size)
        have HBH := Go.Proofs.YtbkeaajnhalekaaGreatDoor.Hid.mk' HBA
        clear HBA HA HF
        by_cases hg : 65 ≤ (s[i + n].toNat : Int) ∧ (s[i + n].toNat : Int) ≤ 90
        · obtain ⟨g1, g2⟩ := hg
          have hcv := conv1 wr ((s[i + n].toNat : Int) + 32) (by omega)
          rw [if_pos ⟨g1, g2⟩] at HLS
          have HL2 := Go.Proofs.YtbkeaajnhalekaaGreatDoor.Hid.mk' HLS
          clear HLS
          rcases hld with hl | ⟨hl, hd⟩
          · rw [hl] at hle
            go_wp2_with fail
            refine (hle _).mono ?_
            rintro e w1 ⟨rfl, rfl⟩
            go_wp2_with fail
            refine (hdi _).mono ?_
            rintro e w1 ⟨rfl, rfl⟩
            clear hle hdi
            go_wp2_with fail
            go_roundw
            case rel => exact ⟨n + 1, _, by go_num, rfl, HL2.out.symm, by omega, HN, HBH.out _⟩
            case measure => simp [intOf]; omega
          · rw [hl] at hle
            rw [hd] at hdi
            go_wp2_with fail
            refine (hle _).mono ?_
            rintro e w1 ⟨rfl, rfl⟩
            go_wp2_with fail
            refine (hdi _).mono ?_
            rintro e w1 ⟨rfl, rfl⟩
            clear hle hdi
            go_wp2_with fail
            go_roundw
            case rel => exact ⟨n + 1, _, by go_num, rfl, HL2.out.symm, by omega, HN, HBH.out _⟩
            case measure => simp [intOf]; omega
        · have hg' : ¬ 65 ≤ (s[i + n].toNat : Int) ∨ (65 ≤ (s[i + n].toNat : Int) ∧ ¬ (s[i + n].toNat : Int) ≤ 90) := by omega
          have hcv := conv1 wr (s[i + n].toNat : Int) hx255
          rw [if_neg hg] at HLS
          simp only [Int.toNat_natCast, UInt8.ofNat_toNat] at HLS
          have HL2 := Go.Proofs.YtbkeaajnhalekaaGreatDoor.Hid.mk' HLS
          clear HLS hg
          rcases hg' with g1 | ⟨g1, g2⟩
          all_goals
            rcases hld with hl | ⟨hl, hd⟩
            · rw [hl] at hle
              go_wp2_with fail
              refine (hle _).mono ?_
              rintro e w1 ⟨rfl, rfl⟩
              go_wp2_with fail
              refine (hdi _).mono ?_
              rintro e w1 ⟨rfl, rfl⟩
              clear hle hdi
              go_wp2_with fail
              go_roundw
              case rel => exact ⟨n + 1, _, by go_num, rfl, HL2.out.symm, by omega, HN, HBH.out _⟩
              case measure => simp [intOf]; omega
            · rw [hl] at hle
              rw [hd] at hdi
              go_wp2_with fail
              refine (hle _).mono ?_
              rintro e w1 ⟨rfl, rfl⟩
              go_wp2_with fail
              refine (hdi _).mono ?_
              rintro e w1 ⟨rfl, rfl⟩
              clear hle hdi
              go_wp2_with fail
              go_roundw
              case rel => exact ⟨n + 1, _, by go_num, rfl, HL2.out.symm, by omega, HN, HBH.out _⟩
              case measure => simp [intOf]; omega
    · have tl : ¬ (i : Int) + (n : Int) < (s.size : Int) := by omega
      obtain ⟨e1, e2⟩ := wd_end s hn HA.out (fun h => absurd h hlt)
      obtain ⟨z0, z1, z2, z3, zf⟩ := HF.out wr HB.out
      have HC : Hid (Below w.heap.size w wr) := HW.out.trans (HB.out.mono HW.out.size)
      by_cases h32 : 32 < n
      · have t32 : (n : Int) > 32 := by omega
        have HE := WdTo.long e1 h32
        clear e1 e2
        go_wp2_with fail
        refine bodyPost_ret (v := .tuple #[.agg #[.int .i64 0, .string ⟨#[]⟩, .int .i64 0, .int .i64 0], .int .i64 0, .string ⟨#[52, 50, 54, 48, 49]⟩]) ?_ rfl ⟨HE, ?_⟩
        · simp [results, Tryz.results28, go_sem, z0, z1, z2, z3]
        · exact (((HC.out.setCell (p := ⟨w.heap.size, 0, none⟩) (Nat.le_refl _) _).setCell (p := ⟨w.heap.size, 1, none⟩) (Nat.le_refl _) _).setCell (p := ⟨w.heap.size, 2, none⟩) (Nat.le_refl _) _).setCell (p := ⟨w.heap.size, 3, none⟩) (Nat.le_refl _) _
      · have t32 : ¬ (n : Int) > 32 := by omega
        have HE := WdTo.ok e1 e2 h32
        rw [← HLB.out] at HE
        clear e1 e2
        go_wp2_with fail
        refine bodyPost_ret (v := .tuple #[.agg #[.int .i64 0, .string lb, .int .i64 0, .int .i64 i], .int .i64 n, .string ⟨#[48, 48, 48, 48, 48]⟩]) ?_ rfl ⟨HE, ?_⟩
        · simp [results, Tryz.results28, go_sem, z0, z1, z2, z3]
        · exact (((HC.out.setCell (p := ⟨w.heap.size, 0, none⟩) (Nat.le_refl _) _).setCell (p := ⟨w.heap.size, 1, none⟩) (Nat.le_refl _) _).setCell (p := ⟨w.heap.size, 2, none⟩) (Nat.le_refl _) _).setCell (p := ⟨w.heap.size, 3, none⟩) (Nat.le_refl _) _
end Go.Proofs.YtbkeaajnhalekaaGreatDoor
