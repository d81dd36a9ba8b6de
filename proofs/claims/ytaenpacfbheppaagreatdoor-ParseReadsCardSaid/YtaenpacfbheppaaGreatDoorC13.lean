/- Two texts one behind the other; pure. -/
import Derived.Test.YtaenpacfbheppaaGreatDoorS13
import Derived.Laws.IdiomStrings
import Derived.Deep.MidRow
import Derived.Lib.Strings
import Derived.Lib.ItoaNum
import Derived.Stop.LaidErr
import Derived.ProofKit
import Derived.Lay
import Derived.SevenTiedAt
set_option maxHeartbeats 16000000
set_option maxRecDepth 100000
set_option linter.unusedVariables false
set_option linter.unusedSimpArgs false
namespace Go.Proofs.YtaenpacfbheppaaGreatDoor

theorem scF_ok {s : List UInt8} {l : List Tok} : scF s = .ok l ↔ s.length ≤ 2000 ∧ tkN s.length 0 s = .ok l ∧ l.length ≤ 600 := by
  unfold scF
  by_cases h : 2000 < s.length
  · rw [if_pos h]
    constructor
    · intro e; cases e
    · intro e; omega
  · rw [if_neg h, scN_tk]
    constructor
    · rintro ⟨h1, h2⟩
      refine ⟨by omega, h1, ?_⟩
      rcases h2 with rfl | h2
      · simp
      · omega
    · rintro ⟨_, h1, h2⟩
      exact ⟨h1, Or.inr (by omega)⟩
end Go.Proofs.YtaenpacfbheppaaGreatDoor
namespace Go.Proofs.YtaenpacfbheppaaGreatDoor
open Go.RowKit

theorem sc_sel : scF [83, 101, 108, 101, 99, 116, 32, 39, 105, 116, 39, 39, 115, 39, 45, 45, 32, 120] = .ok [⟨0, [115, 101, 108, 101, 99, 116], 0, 0⟩, ⟨2, [105, 116, 39, 115], 0, 7⟩] := by kernel_rfl
theorem sc_1a : scF [49, 97] = .error 1 := by kernel_rfl
theorem ScTo.two {w w' : World} {e : Ending} (h : ScTo w ⟨#[83, 101, 108, 101, 99, 116, 32, 39, 105, 116, 39, 39, 115, 39, 45, 45, 32, 120]⟩ e w') : ∃ g cap, e = .returned (.tuple #[.slice (some ⟨g, 0, none⟩) 2 cap, .string ⟨#[48, 48, 48, 48, 48]⟩]) ∧ 2 ≤ cap ∧ TRow w.heap.size w' (.slice (some ⟨g, 0, none⟩) 2 cap) [⟨0, [115, 101, 108, 101, 99, 116], 0, 0⟩, ⟨2, [105, 116, 39, 115], 0, 7⟩] ∧ Below w.heap.size w w' := by
  rcases h with ⟨l, v, ho, he, row, hb⟩ | ⟨er, ho, he, hb⟩
  · rw [show (⟨#[83, 101, 108, 101, 99, 116, 32, 39, 105, 116, 39, 39, 115, 39, 45, 45, 32, 120]⟩ : ByteArray).data.toList = [83, 101, 108, 101, 99, 116, 32, 39, 105, 116, 39, 39, 115, 39, 45, 45, 32, 120] from rfl, sc_sel] at ho
    cases ho
    obtain ⟨g, cap, rfl, hc, _⟩ := row.at_ (by decide)
    exact ⟨g, cap, he, hc, row, hb⟩
  · rw [show (⟨#[83, 101, 108, 101, 99, 116, 32, 39, 105, 116, 39, 39, 115, 39, 45, 45, 32, 120]⟩ : ByteArray).data.toList = [83, 101, 108, 101, 99, 116, 32, 39, 105, 116, 39, 39, 115, 39, 45, 45, 32, 120] from rfl, sc_sel] at ho
    cases ho
theorem ScTo.oneA {w w' : World} {e : Ending} (h : ScTo w ⟨#[49, 97]⟩ e w') : e = .returned (.tuple #[.slice none 0 0, .string ⟨#[52, 50, 54, 48, 49]⟩]) ∧ Below w.heap.size w w' := by
  rcases h with ⟨l, v, ho, he, row, hb⟩ | ⟨er, ho, he, hb⟩
  · rw [show (⟨#[49, 97]⟩ : ByteArray).data.toList = [49, 97] from rfl, sc_1a] at ho
    cases ho
  · rw [show (⟨#[49, 97]⟩ : ByteArray).data.toList = [49, 97] from rfl, sc_1a] at ho
    cases ho
    exact ⟨he, hb⟩
theorem TRow.cells {base : Nat} {w : World} {g n cap : Nat} {l : List Tok} (h : TRow base w (.slice (some ⟨g, 0, none⟩) n cap) l) (k : Nat) (hk : k < l.length) : w.cell? ⟨g, k * 4, none⟩ = some (.int .i64 l[k].k) ∧ w.cell? ⟨g, k * 4 + 1, none⟩ = some (.string ⟨l[k].s.toArray⟩) ∧ w.cell? ⟨g, k * 4 + 2, none⟩ = some (.int .i64 l[k].n) ∧ w.cell? ⟨g, k * 4 + 3, none⟩ = some (.int .i64 l[k].at_) :=
  ⟨h.cell (tokC_len l) k hk 0 (by decide), h.cell (tokC_len l) k hk 1 (by decide), h.cell (tokC_len l) k hk 2 (by decide), h.cell (tokC_len l) k hk 3 (by decide)⟩
theorem TRow.keepB {base : Nat} {w w' : World} {v : Value} {l : List Tok} (h : TRow base w v l) (hb : Below w.heap.size w w') : TRow base w' v l := Row.of_block h (fun c hc => hb.block c (h.lo c hc).2)
theorem res_sel : resL.contains (⟨#[115, 101, 108, 101, 99, 116]⟩ : ByteArray).data.toList = true := by decide
theorem res_a : resL.contains (⟨#[97]⟩ : ByteArray).data.toList = false := by decide
end Go.Proofs.YtaenpacfbheppaaGreatDoor
namespace Go.Proofs.YtaenpacfbheppaaGreatDoor
open Go.RowKit

theorem conv1 (w : World) (x : Int) (h : 0 ≤ x ∧ x ≤ 255) : (convert 80 9 (.slice (some ⟨w.heap.size, 0, none⟩) 1 1)).run Tryz.prog (w.alloc (.cells #[.int .u8 x] 5)) = .ok (.string ⟨#[UInt8.ofNat x.toNat]⟩) (w.alloc (.cells #[.int .u8 x] 5)) := by
  refine run_convert_bytes_back _ 80 9 5 ⟨w.heap.size, 0, none⟩ 1 [UInt8.ofNat x.toNat] Tryz.underlying80 Tryz.underlying5 Tryz.underlying9 (fun j hj => ?_)
  rw [Addr.add_mid, cell_of_row _ _ _ _ _ _ (heap_alloc_new w _)]
  match j, hj with
  | 0, _ => simp [UInt8.toNat_ofNat']; omega
def lows (s : ByteArray) (i n : Nat) : List UInt8 := ((rest s i).take n).map lowc
theorem rest_get (s : ByteArray) {i n : Nat} (h : i + n < s.size) : (rest s i)[n]? = some s[i + n] := by
  unfold rest
  rw [List.getElem?_drop]
  have : i + n < s.data.toList.length := by simpa using h
  rw [List.getElem?_eq_getElem this]
  rfl
theorem lows_succ (s : ByteArray) {i n : Nat} (h : i + n < s.size) : lows s i (n + 1) = lows s i n ++ [lowc s[i + n]] := by
  unfold lows
  rw [List.take_add_one, rest_get s h]
  simp
theorem lows_len (s : ByteArray) {i n : Nat} (h : i + n ≤ s.size) : (lows s i n).length = n := by
  unfold lows
  rw [List.length_map, List.length_take, rest_len]
  omega
theorem wd_end (s : ByteArray) {i n : Nat} (hn : i + n ≤ s.size) (h1 : ∀ j, j < n → ∀ h : i + j < s.size, isWd s[i + j] = true) (h2 : ∀ h : i + n < s.size, isWd s[i + n] = false) : ((rest s i).takeWhile isWd).length = n ∧ ((rest s i).takeWhile isWd).map lowc = lows s i n := by
  have := tw_stop (p := isWd) s s.size i n (by omega) hn h1 h2
  refine ⟨this, ?_⟩
  unfold lows
  rw [← this, tw_pre]
theorem lows_cat (s : ByteArray) {i n : Nat} (h : i + n < s.size) : (⟨(lows s i (n + 1)).toArray⟩ : ByteArray) = ⟨(lows s i n).toArray⟩ ++ ⟨#[UInt8.ofNat (if 65 ≤ (s[i + n].toNat : Int) ∧ (s[i + n].toNat : Int) ≤ 90 then (s[i + n].toNat : Int) + 32 else (s[i + n].toNat : Int)).toNat]⟩ := by
  rw [lows_succ s h]
  have hc : ∀ c : UInt8, UInt8.ofNat (if 65 ≤ (c.toNat : Int) ∧ (c.toNat : Int) ≤ 90 then (c.toNat : Int) + 32 else (c.toNat : Int)).toNat = lowc c := fun c => by
    have : ∀ k : Fin 256, UInt8.ofNat (if 65 ≤ ((UInt8.ofNat k.val).toNat : Int) ∧ ((UInt8.ofNat k.val).toNat : Int) ≤ 90 then ((UInt8.ofNat k.val).toNat : Int) + 32 else ((UInt8.ofNat k.val).toNat : Int)).toNat = lowc (UInt8.ofNat k.val) := by decide +kernel
    have h := this ⟨c.toNat, c.toNat_lt⟩
    simpa only [UInt8.ofNat_toNat] using h
  rw [hc]
  apply ByteArray.ext
  simp
def WdTo (s : ByteArray) (i : Nat) (e : Ending) : Prop := if 32 < ((rest s i).takeWhile isWd).length then e = .returned (.tuple #[.agg #[.int .i64 0, .string ByteArray.empty, .int .i64 0, .int .i64 0], .int .i64 0, .string ⟨#[52, 50, 54, 48, 49]⟩]) else e = .returned (.tuple #[.agg #[.int .i64 0, .string ⟨(((rest s i).takeWhile isWd).map lowc).toArray⟩, .int .i64 0, .int .i64 i], .int .i64 ((rest s i).takeWhile isWd).length, .string ⟨#[48, 48, 48, 48, 48]⟩])
theorem WdTo.long {s : ByteArray} {i n : Nat} (h : ((rest s i).takeWhile isWd).length = n) (h32 : 32 < n) : WdTo s i (.returned (.tuple #[.agg #[.int .i64 0, .string ⟨#[]⟩, .int .i64 0, .int .i64 0], .int .i64 0, .string ⟨#[52, 50, 54, 48, 49]⟩])) := by
  unfold WdTo
  rw [h, if_pos h32]
  rfl
theorem WdTo.ok {s : ByteArray} {i n : Nat} (h : ((rest s i).takeWhile isWd).length = n) (h2 : ((rest s i).takeWhile isWd).map lowc = lows s i n) (h32 : ¬ 32 < n) : WdTo s i (.returned (.tuple #[.agg #[.int .i64 0, .string ⟨(lows s i n).toArray⟩, .int .i64 0, .int .i64 i], .int .i64 n, .string ⟨#[48, 48, 48, 48, 48]⟩])) := by
  unfold WdTo
  rw [h, if_neg h32, h2]
theorem word_ref (s : ByteArray) (hs : s.size ≤ 10000) {i : Nat} (hi : i < s.size) (w : World) : Calls Tryz.prog 25 #[.string s, .int .i64 i] w fun e w' => WdTo s i e ∧ Below w.heap.size w w' := by
  have hb0 : Below w.heap.size w (w.alloc (.cells #[.int .i64 0, .string ⟨#[]⟩, .int .i64 0, .int .i64 0] 52)) := (Below.refl _ _).alloc (Nat.le_refl _) _
  have hnew := heap_alloc_new w (.cells #[.int .i64 0, .string ⟨#[]⟩, .int .i64 0, .int .i64 0] 52)
  have hsz : (w.alloc (.cells #[.int .i64 0, .string ⟨#[]⟩, .int .i64 0, .int .i64 0] 52)).heap.size = w.heap.size + 1 := by simp
  generalize hw0 : w.alloc (.cells #[.int .i64 0, .string ⟨#[]⟩, .int .i64 0, .int .i64 0] 52) = w0 at *
  have HF : Hid (∀ W, Below w0.heap.size w0 W → W.cell? ⟨w.heap.size, 0, none⟩ = some (.int .i64 0) ∧ W.cell? ⟨w.heap.size, 1, none⟩ = some (.string ⟨#[]⟩) ∧ W.cell? ⟨w.heap.size, 2, none⟩ = some (.int .i64 0) ∧ W.cell? ⟨w.heap.size, 3, none⟩ = some (.int .i64 0) ∧ (∀ o, W.frozen? ⟨w.heap.size, o, none⟩ = false)) := fun W hb => by
    have e := (hb.block w.heap.size (by omega)).trans hnew
    refine ⟨by rw [cell_of_row W _ 0 _ _ _ e]; rfl, by rw [cell_of_row W _ 1 _ _ _ e]; rfl, by rw [cell_of_row W _ 2 _ _ _ e]; rfl, by rw [cell_of_row W _ 3 _ _ _ e]; rfl, fun o => by simp [World.frozen?, e]⟩
  have HW : Hid (Below w.heap.size w w0) := hb0
  have HSZ : Hid (w0.heap.size = w.heap.size + 1) := hsz
  clear hnew hb0 hsz
  go_enter Tryz.func25, Tryz.ntmps25
  go_wp2_with fail
  clear hw0
  go_loopw [7, 8] (fun nv lv wr => ∃ (n : Nat) (b : ByteArray), nv = .int .i64 n ∧ lv = .string b ∧ Hid (b = ⟨(lows s i n).toArray⟩) ∧ i + n ≤ s.size ∧ Hid (∀ j, j < n → ∀ h : i + j < s.size, isWd s[i + j] = true) ∧ Hid (Below w0.heap.size w0 wr)) (fun nv _ _ => s.size - (intOf nv).toNat)
  case atStart => exact ⟨0, _, rfl, rfl, by show _ = _; simp [lows], by omega, fun j hj => by omega, Below.refl _ _⟩
  case round =>
    rename World => wr
    obtain ⟨n, lb, rfl, rfl, HLB, hn, HA, HB⟩ := hrel
    by_cases hlt : i + n < s.size
    · have tl : (i : Int) + (n : Int) < (s.size : Int) := by omega
      have hle := letter_ref (s[i + n].toNat : Int)
      have hdi := digit_ref (s[i + n].toNat : Int)
      rw [ltI_of] at hle
      rw [dgI_of] at hdi
      cases hwd : isWd s[i + n] with
      | false =>
        obtain ⟨hl, hd⟩ : isLt s[i + n] = false ∧ isDg s[i + n] = false := by simpa [isWd] using hwd
        rw [hl] at hle
        rw [hd] at hdi
        obtain ⟨e1, e2⟩ := wd_end s hn HA.out (fun _ => hwd)
        obtain ⟨z0, z1, z2, z3, zf⟩ := HF.out wr HB.out
        have HC : Hid (Below w.heap.size w wr) := HW.out.trans (HB.out.mono HW.out.size)
        go_wp2_with fail
        refine (hle _).mono ?_
        rintro e w1 ⟨rfl, rfl⟩
        go_wp2_with fail
        refine (hdi _).mono ?_
        rintro e w1 ⟨rfl, rfl⟩
        clear hle hdi
        by_cases h32 : 32 < n
        · have t32 : (n : Int) > 32 := by omega
          have HE := WdTo.long e1 h32
          clear e1 e2
          go_wp2_with fail
          refine bodyPost_ret (v := .tuple #[.agg #[.int .i64 0, .string ⟨#[]⟩, .int .i64 0, .int .i64 0], .int .i64 0, .string ⟨#[52, 50, 54, 48, 49]⟩]) ?_ rfl ⟨HE, ?_⟩
          · simp [results, Tryz.results25, go_sem, z0, z1, z2, z3]
          · exact (((HC.out.setCell (p := ⟨w.heap.size, 0, none⟩) (Nat.le_refl _) _).setCell (p := ⟨w.heap.size, 1, none⟩) (Nat.le_refl _) _).setCell (p := ⟨w.heap.size, 2, none⟩) (Nat.le_refl _) _).setCell (p := ⟨w.heap.size, 3, none⟩) (Nat.le_refl _) _
        · have t32 : ¬ (n : Int) > 32 := by omega
          have HE := WdTo.ok e1 e2 h32
          rw [← HLB.out] at HE
          clear e1 e2
          go_wp2_with fail
          refine bodyPost_ret (v := .tuple #[.agg #[.int .i64 0, .string lb, .int .i64 0, .int .i64 i], .int .i64 n, .string ⟨#[48, 48, 48, 48, 48]⟩]) ?_ rfl ⟨HE, ?_⟩
          · simp [results, Tryz.results25, go_sem, z0, z1, z2, z3]
          · exact (((HC.out.setCell (p := ⟨w.heap.size, 0, none⟩) (Nat.le_refl _) _).setCell (p := ⟨w.heap.size, 1, none⟩) (Nat.le_refl _) _).setCell (p := ⟨w.heap.size, 2, none⟩) (Nat.le_refl _) _).setCell (p := ⟨w.heap.size, 3, none⟩) (Nat.le_refl _) _
      | true =>
        have HN : Hid (∀ j, j < n + 1 → ∀ h : i + j < s.size, isWd s[i + j] = true) := fun j hj h => by
          by_cases e : j = n
          · subst e; exact hwd
          · exact HA.out j (by omega) h
        have hld : isLt s[i + n] = true ∨ (isLt s[i + n] = false ∧ isDg s[i + n] = true) := by
          simp only [isWd, Bool.or_eq_true] at hwd
          cases h : isLt s[i + n] with
          | true => exact Or.inl rfl
          | false => rw [h] at hwd; exact Or.inr ⟨rfl, by simpa using hwd⟩
        have hx255 : (0 : Int) ≤ (s[i + n].toNat : Int) ∧ (s[i + n].toNat : Int) ≤ 255 := by
          have := s[i + n].toNat_lt
          omega
        have hlbs : lb.size ≤ 10000 := by
          rw [HLB.out]
          show (lows s i n).toArray.size ≤ 10000
          rw [List.size_toArray, lows_len s hn]
          omega
        have hcat : ¬ 9223372036854775807 < lb.size + 1 := by omega
        have HLS := lows_cat s hlt
        rw [← HLB.out] at HLS
        have HBA : ∀ x : Int, Hid (Below w0.heap.size w0 (wr.alloc (.cells #[.int .u8 x] 5))) := fun x => HB.out.trans (((Below.refl wr.heap.size wr).alloc (Nat.le_refl _) _).mono HB.out.size)
        have HBH := hidk HBA
        clear HBA HA HF
        by_cases hg : 65 ≤ (s[i + n].toNat : Int) ∧ (s[i + n].toNat : Int) ≤ 90
        · obtain ⟨g1, g2⟩ := hg
          have hcv := conv1 wr ((s[i + n].toNat : Int) + 32) (by omega)
          rw [if_pos ⟨g1, g2⟩] at HLS
          have HL2 := hidk HLS
          clear HLS
          rcases hld with hl | ⟨hl, hd⟩
          · rw [hl] at hle
            go_wp2_with fail
            refine (hle _).mono ?_
            rintro e w1 ⟨rfl, rfl⟩
            go_wp2_with fail
            refine (hdi _).mono ?_
            rintro e w1 ⟨rfl, rfl⟩
            clear hle hdi
            go_wp2_with fail
            go_roundw
            case rel => exact ⟨n + 1, _, by go_num, rfl, HL2.out.symm, by omega, HN, HBH.out _⟩
            case measure => simp [intOf]; omega
          · rw [hl] at hle
            rw [hd] at hdi
            go_wp2_with fail
            refine (hle _).mono ?_
            rintro e w1 ⟨rfl, rfl⟩
            go_wp2_with fail
            refine (hdi _).mono ?_
            rintro e w1 ⟨rfl, rfl⟩
            clear hle hdi
            go_wp2_with fail
            go_roundw
            case rel => exact ⟨n + 1, _, by go_num, rfl, HL2.out.symm, by omega, HN, HBH.out _⟩
            case measure => simp [intOf]; omega
        · have hg' : ¬ 65 ≤ (s[i + n].toNat : Int) ∨ (65 ≤ (s[i + n].toNat : Int) ∧ ¬ (s[i + n].toNat : Int) ≤ 90) := by omega
          have hcv := conv1 wr (s[i + n].toNat : Int) hx255
          rw [if_neg hg] at HLS
          simp only [Int.toNat_natCast, UInt8.ofNat_toNat] at HLS
          have HL2 := hidk HLS
          clear HLS hg
          rcases hg' with g1 | ⟨g1, g2⟩
          all_goals
            rcases hld with hl | ⟨hl, hd⟩
            · rw [hl] at hle
              go_wp2_with fail
              refine (hle _).mono ?_
              rintro e w1 ⟨rfl, rfl⟩
              go_wp2_with fail
              refine (hdi _).mono ?_
              rintro e w1 ⟨rfl, rfl⟩
              clear hle hdi
              go_wp2_with fail
              go_roundw
              case rel => exact ⟨n + 1, _, by go_num, rfl, HL2.out.symm, by omega, HN, HBH.out _⟩
              case measure => simp [intOf]; omega
            · rw [hl] at hle
              rw [hd] at hdi
              go_wp2_with fail
              refine (hle _).mono ?_
              rintro e w1 ⟨rfl, rfl⟩
              go_wp2_with fail
              refine (hdi _).mono ?_
              rintro e w1 ⟨rfl, rfl⟩
              clear hle hdi
              go_wp2_with fail
              go_roundw
              case rel => exact ⟨n + 1, _, by go_num, rfl, HL2.out.symm, by omega, HN, HBH.out _⟩
              case measure => simp [intOf]; omega
    · have tl : ¬ (i : Int) + (n : Int) < (s.size : Int) := by omega
      obtain ⟨e1, e2⟩ := wd_end s hn HA.out (fun h => absurd h hlt)
      obtain ⟨z0, z1, z2, z3, zf⟩ := HF.out wr HB.out
      have HC : Hid (Below w.heap.size w wr) := HW.out.trans (HB.out.mono HW.out.size)
      by_cases h32 : 32 < n
      · have t32 : (n : Int) > 32 := by omega
        have HE := WdTo.long e1 h32
        clear e1 e2
        go_wp2_with fail
        refine bodyPost_ret (v := .tuple #[.agg #[.int .i64 0, .string ⟨#[]⟩, .int .i64 0, .int .i64 0], .int .i64 0, .string ⟨#[52, 50, 54, 48, 49]⟩]) ?_ rfl ⟨HE, ?_⟩
        · simp [results, Tryz.results25, go_sem, z0, z1, z2, z3]
        · exact (((HC.out.setCell (p := ⟨w.heap.size, 0, none⟩) (Nat.le_refl _) _).setCell (p := ⟨w.heap.size, 1, none⟩) (Nat.le_refl _) _).setCell (p := ⟨w.heap.size, 2, none⟩) (Nat.le_refl _) _).setCell (p := ⟨w.heap.size, 3, none⟩) (Nat.le_refl _) _
      · have t32 : ¬ (n : Int) > 32 := by omega
        have HE := WdTo.ok e1 e2 h32
        rw [← HLB.out] at HE
        clear e1 e2
        go_wp2_with fail
        refine bodyPost_ret (v := .tuple #[.agg #[.int .i64 0, .string lb, .int .i64 0, .int .i64 i], .int .i64 n, .string ⟨#[48, 48, 48, 48, 48]⟩]) ?_ rfl ⟨HE, ?_⟩
        · simp [results, Tryz.results25, go_sem, z0, z1, z2, z3]
        · exact (((HC.out.setCell (p := ⟨w.heap.size, 0, none⟩) (Nat.le_refl _) _).setCell (p := ⟨w.heap.size, 1, none⟩) (Nat.le_refl _) _).setCell (p := ⟨w.heap.size, 2, none⟩) (Nat.le_refl _) _).setCell (p := ⟨w.heap.size, 3, none⟩) (Nat.le_refl _) _
end Go.Proofs.YtaenpacfbheppaaGreatDoor
namespace Go.Proofs.YtaenpacfbheppaaGreatDoor
open Go.RowKit

def digs (s : ByteArray) (i n : Nat) : List UInt8 := (rest s i).take n
theorem val_snoc (d : List UInt8) (c : UInt8) : val (d ++ [c]) = 10 * val d + (c.toNat - 48) := by simp [val, List.foldl_append]
theorem digs_succ (s : ByteArray) {i n : Nat} (h : i + n < s.size) : digs s i (n + 1) = digs s i n ++ [s[i + n]] := by
  unfold digs
  rw [List.take_add_one, rest_get s h]
  simp
theorem dg_end (s : ByteArray) {i n : Nat} (hn : i + n ≤ s.size) (h1 : ∀ j, j < n → ∀ h : i + j < s.size, isDg s[i + j] = true) (h2 : ∀ h : i + n < s.size, isDg s[i + n] = false) : ((rest s i).takeWhile isDg).length = n ∧ (rest s i).takeWhile isDg = digs s i n ∧ (rest s i).dropWhile isDg = rest s (i + n) := by
  have := tw_stop (p := isDg) s s.size i n (by omega) hn h1 h2
  have e : (rest s i).takeWhile isDg = digs s i n := by unfold digs; rw [← this, tw_pre]
  refine ⟨this, e, ?_⟩
  have h3 := List.takeWhile_append_dropWhile (p := isDg) (l := rest s i)
  have h4 : rest s i = digs s i n ++ rest s (i + n) := by
    unfold digs rest
    rw [← List.drop_drop, List.take_append_drop]
  rw [e] at h3
  exact List.append_cancel_left (h3.trans h4)
def NmTo (s : ByteArray) (i : Nat) (e : Ending) : Prop := match nmS (rest s i) with
  | .no 2 => e = .returned (.tuple #[.agg #[.int .i64 0, .string ⟨#[]⟩, .int .i64 0, .int .i64 0], .int .i64 0, .string ⟨#[50, 50, 48, 48, 51]⟩])
  | .no _ => e = .returned (.tuple #[.agg #[.int .i64 0, .string ⟨#[]⟩, .int .i64 0, .int .i64 0], .int .i64 0, .string ⟨#[52, 50, 54, 48, 49]⟩])
  | .tk _ _ v n => e = .returned (.tuple #[.agg #[.int .i64 1, .string ⟨#[]⟩, .int .i64 v, .int .i64 i], .int .i64 n, .string ⟨#[48, 48, 48, 48, 48]⟩])
  | .bl _ => False
def NmV (d : List UInt8) (v : Int) (ov : Bool) : Prop := if ov then 9223372036854775807 < val d else v = (val d : Int) ∧ val d ≤ 9223372036854775807
theorem NmV.step {d : List UInt8} {v : Int} {c : UInt8} (h : NmV d v false) (hc : isDg c = true) : (v > 922337203685477580 ∨ (v = 922337203685477580 ∧ (c.toNat : Int) > 55)) → NmV (d ++ [c]) v true := by
  intro ho
  unfold NmV at h ⊢
  simp only [Bool.false_eq_true, if_false, if_true] at h ⊢
  rw [val_snoc]
  have : 48 ≤ c.toNat ∧ c.toNat ≤ 57 := by
    simp only [isDg, Bool.and_eq_true, decide_eq_true_eq] at hc
    exact ⟨UInt8.le_iff_toNat_le.1 hc.1, UInt8.le_iff_toNat_le.1 hc.2⟩
  omega
theorem NmV.more {d : List UInt8} {v u : Int} {c : UInt8} (h : NmV d v true) : NmV (d ++ [c]) u true := by
  unfold NmV at h ⊢
  simp only [if_true] at h ⊢
  rw [val_snoc]
  omega
theorem NmV.add {d : List UInt8} {v : Int} {c : UInt8} (h : NmV d v false) (hc : isDg c = true) (ho : ¬ (v > 922337203685477580 ∨ (v = 922337203685477580 ∧ (c.toNat : Int) > 55))) : NmV (d ++ [c]) (10 * v + ((c.toNat : Int) - 48)) false ∧ 0 ≤ 10 * v + ((c.toNat : Int) - 48) ∧ 10 * v + ((c.toNat : Int) - 48) ≤ 9223372036854775807 := by
  unfold NmV at h ⊢
  simp only [Bool.false_eq_true, if_false] at h ⊢
  rw [val_snoc]
  have : 48 ≤ c.toNat ∧ c.toNat ≤ 57 := by
    simp only [isDg, Bool.and_eq_true, decide_eq_true_eq] at hc
    exact ⟨UInt8.le_iff_toNat_le.1 hc.1, UInt8.le_iff_toNat_le.1 hc.2⟩
  omega
theorem NmTo.over {s : ByteArray} {i n : Nat} {v : Int} (h : (rest s i).takeWhile isDg = digs s i n) (hv : NmV (digs s i n) v true) : NmTo s i (.returned (.tuple #[.agg #[.int .i64 0, .string ⟨#[]⟩, .int .i64 0, .int .i64 0], .int .i64 0, .string ⟨#[50, 50, 48, 48, 51]⟩])) := by
  unfold NmV at hv
  simp only [if_true] at hv
  unfold NmTo nmS
  rw [h, if_pos hv]
  rfl
theorem NmTo.syn {s : ByteArray} {i n : Nat} {v : Int} (h : (rest s i).takeWhile isDg = digs s i n) (hd : (rest s i).dropWhile isDg = rest s (i + n)) (hv : NmV (digs s i n) v false) (hl : i + n < s.size) (hc : isLt s[i + n] = true) : NmTo s i (.returned (.tuple #[.agg #[.int .i64 0, .string ⟨#[]⟩, .int .i64 0, .int .i64 0], .int .i64 0, .string ⟨#[52, 50, 54, 48, 49]⟩])) := by
  unfold NmV at hv
  simp only [Bool.false_eq_true, if_false] at hv
  unfold NmTo nmS
  rw [h, if_neg (by omega), hd, rest_at s hl, if_pos (by simpa using hc)]
  rfl
theorem NmTo.ok {s : ByteArray} {i n : Nat} {v : Int} (hn : ((rest s i).takeWhile isDg).length = n) (h : (rest s i).takeWhile isDg = digs s i n) (hd : (rest s i).dropWhile isDg = rest s (i + n)) (hv : NmV (digs s i n) v false) (hc : ∀ hl : i + n < s.size, isLt s[i + n] = false) : NmTo s i (.returned (.tuple #[.agg #[.int .i64 1, .string ⟨#[]⟩, .int .i64 v, .int .i64 i], .int .i64 n, .string ⟨#[48, 48, 48, 48, 48]⟩])) := by
  unfold NmV at hv
  simp only [Bool.false_eq_true, if_false] at hv
  unfold NmTo nmS
  rw [hn, h, if_neg (by omega), hd]
  by_cases hl : i + n < s.size
  · rw [rest_at s hl, if_neg (by simp [hc hl]), hv.1]
  · rw [rest_end s (by omega), if_neg (by simp), hv.1]
theorem number_ref (s : ByteArray) (hs : s.size ≤ 10000) {i : Nat} (hi : i < s.size) (w : World) : Calls Tryz.prog 26 #[.string s, .int .i64 i] w fun e w' => NmTo s i e ∧ Below w.heap.size w w' := by
  have hb0 : Below w.heap.size w (w.alloc (.cells #[.int .i64 0, .string ⟨#[]⟩, .int .i64 0, .int .i64 0] 52)) := (Below.refl _ _).alloc (Nat.le_refl _) _
  have hnew := heap_alloc_new w (.cells #[.int .i64 0, .string ⟨#[]⟩, .int .i64 0, .int .i64 0] 52)
  have hsz : (w.alloc (.cells #[.int .i64 0, .string ⟨#[]⟩, .int .i64 0, .int .i64 0] 52)).heap.size = w.heap.size + 1 := by simp
  generalize hw0 : w.alloc (.cells #[.int .i64 0, .string ⟨#[]⟩, .int .i64 0, .int .i64 0] 52) = w0 at *
  have HF : Hid (∀ W, Below w0.heap.size w0 W → W.cell? ⟨w.heap.size, 0, none⟩ = some (.int .i64 0) ∧ W.cell? ⟨w.heap.size, 1, none⟩ = some (.string ⟨#[]⟩) ∧ W.cell? ⟨w.heap.size, 2, none⟩ = some (.int .i64 0) ∧ W.cell? ⟨w.heap.size, 3, none⟩ = some (.int .i64 0) ∧ (∀ o, W.frozen? ⟨w.heap.size, o, none⟩ = false)) := fun W hb => by
    have e := (hb.block w.heap.size (by omega)).trans hnew
    refine ⟨by rw [cell_of_row W _ 0 _ _ _ e]; rfl, by rw [cell_of_row W _ 1 _ _ _ e]; rfl, by rw [cell_of_row W _ 2 _ _ _ e]; rfl, by rw [cell_of_row W _ 3 _ _ _ e]; rfl, fun o => by simp [World.frozen?, e]⟩
  have HW : Hid (Below w.heap.size w w0) := hb0
  have HSZ : Hid (w0.heap.size = w.heap.size + 1) := hsz
  clear hnew hb0 hsz
  go_enter Tryz.func26, Tryz.ntmps26
  go_wp2_with fail
  clear hw0
  go_loopw [7, 8, 9] (fun nv vv ov wr => ∃ (n : Nat) (v : Int) (o : Bool), nv = .int .i64 n ∧ vv = .int .u64 v ∧ ov = .bool o ∧ i + n ≤ s.size ∧ (0 ≤ v ∧ v ≤ 9223372036854775807) ∧ Hid (NmV (digs s i n) v o) ∧ Hid (∀ j, j < n → ∀ h : i + j < s.size, isDg s[i + j] = true) ∧ Hid (Below w0.heap.size w0 wr)) (fun nv _ _ _ => s.size - (intOf nv).toNat)
  case atStart => exact ⟨0, 0, false, rfl, rfl, rfl, by omega, by omega, ⟨by simp [digs, val], by simp [digs, val]⟩, fun j hj => by omega, Below.refl _ _⟩
  case round =>
    rename World => wr
    obtain ⟨n, v, o, rfl, rfl, rfl, hn, ⟨hv0, hv1⟩, HV, HA, HB⟩ := hrel
    obtain ⟨z0, z1, z2, z3, zf⟩ := HF.out wr HB.out
    have HC : Hid (Below w.heap.size w wr) := HW.out.trans (HB.out.mono HW.out.size)
    by_cases hlt : i + n < s.size
    · have tl : (i : Int) + (n : Int) < (s.size : Int) := by omega
      have hdi := digit_ref (s[i + n].toNat : Int)
      rw [dgI_of] at hdi
      cases hwd : isDg s[i + n] with
      | false =>
        rw [hwd] at hdi
        obtain ⟨e1, e2, e3⟩ := dg_end s hn HA.out (fun _ => hwd)
        have hle := letter_ref (s[i + n].toNat : Int)
        rw [ltI_of] at hle
        cases o with
        | true =>
          have HE := NmTo.over e2 HV.out
          clear e1 e2 e3 hle
          go_wp2_with fail
          refine (hdi _).mono ?_
          rintro e w1 ⟨rfl, rfl⟩
          clear hdi
          go_wp2_with fail
          refine bodyPost_ret (v := .tuple #[.agg #[.int .i64 0, .string ⟨#[]⟩, .int .i64 0, .int .i64 0], .int .i64 0, .string ⟨#[50, 50, 48, 48, 51]⟩]) ?_ rfl ⟨HE, ?_⟩
          · simp [results, Tryz.results26, go_sem, z0, z1, z2, z3]
          · exact (((HC.out.setCell (p := ⟨w.heap.size, 0, none⟩) (Nat.le_refl _) _).setCell (p := ⟨w.heap.size, 1, none⟩) (Nat.le_refl _) _).setCell (p := ⟨w.heap.size, 2, none⟩) (Nat.le_refl _) _).setCell (p := ⟨w.heap.size, 3, none⟩) (Nat.le_refl _) _
        | false =>
          cases hl : isLt s[i + n] with
          | true =>
            rw [hl] at hle
            have HE := NmTo.syn e2 e3 HV.out hlt hl
            clear e1 e2 e3
            go_wp2_with fail
            refine (hdi _).mono ?_
            rintro e w1 ⟨rfl, rfl⟩
            clear hdi
            go_wp2_with fail
            refine (hle _).mono ?_
            rintro e w1 ⟨rfl, rfl⟩
            clear hle
            go_wp2_with fail
            refine bodyPost_ret (v := .tuple #[.agg #[.int .i64 0, .string ⟨#[]⟩, .int .i64 0, .int .i64 0], .int .i64 0, .string ⟨#[52, 50, 54, 48, 49]⟩]) ?_ rfl ⟨HE, ?_⟩
            · simp [results, Tryz.results26, go_sem, z0, z1, z2, z3]
            · exact (((HC.out.setCell (p := ⟨w.heap.size, 0, none⟩) (Nat.le_refl _) _).setCell (p := ⟨w.heap.size, 1, none⟩) (Nat.le_refl _) _).setCell (p := ⟨w.heap.size, 2, none⟩) (Nat.le_refl _) _).setCell (p := ⟨w.heap.size, 3, none⟩) (Nat.le_refl _) _
          | false =>
            rw [hl] at hle
            have HE := NmTo.ok e1 e2 e3 HV.out (fun _ => hl)
            clear e1 e2 e3
            go_wp2_with fail
            refine (hdi _).mono ?_
            rintro e w1 ⟨rfl, rfl⟩
            clear hdi
            go_wp2_with fail
            refine (hle _).mono ?_
            rintro e w1 ⟨rfl, rfl⟩
            clear hle
            go_wp2_with fail
            refine bodyPost_ret (v := .tuple #[.agg #[.int .i64 1, .string ⟨#[]⟩, .int .i64 v, .int .i64 i], .int .i64 n, .string ⟨#[48, 48, 48, 48, 48]⟩]) ?_ rfl ⟨HE, ?_⟩
            · simp [results, Tryz.results26, go_sem, z0, z1, z2, z3]
            · exact (((HC.out.setCell (p := ⟨w.heap.size, 0, none⟩) (Nat.le_refl _) _).setCell (p := ⟨w.heap.size, 1, none⟩) (Nat.le_refl _) _).setCell (p := ⟨w.heap.size, 2, none⟩) (Nat.le_refl _) _).setCell (p := ⟨w.heap.size, 3, none⟩) (Nat.le_refl _) _
      | true =>
        rw [hwd] at hdi
        have HN : Hid (∀ j, j < n + 1 → ∀ h : i + j < s.size, isDg s[i + j] = true) := fun j hj h => by
          by_cases e : j = n
          · subst e; exact hwd
          · exact HA.out j (by omega) h
        have hx : (48 : Int) ≤ (s[i + n].toNat : Int) ∧ (s[i + n].toNat : Int) ≤ 57 := by
          have h := dgI_of s[i + n]
          rw [hwd] at h
          simp only [dgI, Bool.and_eq_true, decide_eq_true_eq] at h
          exact h
        obtain ⟨hx0, hx1⟩ := hx
        have hds := digs_succ s hlt
        have hcs : v > 922337203685477580 ∨ (¬ v > 922337203685477580 ∧ v = 922337203685477580 ∧ (s[i + n].toNat : Int) > 55) ∨ (¬ v > 922337203685477580 ∧ v = 922337203685477580 ∧ ¬ (s[i + n].toNat : Int) > 55) ∨ (¬ v > 922337203685477580 ∧ ¬ v = 922337203685477580) := by omega
        cases o with
        | true =>
          have HV2 : Hid (NmV (digs s i (n + 1)) v true) := by
            show NmV (digs s i (n + 1)) v true
            rw [hds]; exact HV.out.more
          clear HV HA hds HF z0 z1 z2 z3 zf
          rcases hcs with g1 | ⟨g1, rfl, g3⟩ | ⟨g1, rfl, g3⟩ | ⟨g1, g2⟩
          · clear hwd
            go_wp2_with fail
            refine (hdi _).mono ?_
            rintro e w1 ⟨rfl, rfl⟩
            clear hdi
            go_wp2_with fail
            go_roundw
            case rel => exact ⟨n + 1, v, true, by go_num, rfl, rfl, by omega, ⟨hv0, hv1⟩, HV2, HN, HB⟩
            case measure => simp [intOf]; omega
          · clear hwd
            go_wp2_with fail
            refine (hdi _).mono ?_
            rintro e w1 ⟨rfl, rfl⟩
            clear hdi
            go_wp2_with fail
            go_roundw
            case rel => exact ⟨n + 1, _, true, by go_num, rfl, rfl, by omega, ⟨hv0, hv1⟩, HV2, HN, HB⟩
            case measure => simp [intOf]; omega
          · clear hwd
            go_wp2_with fail
            refine (hdi _).mono ?_
            rintro e w1 ⟨rfl, rfl⟩
            clear hdi
            go_wp2_with fail
            go_roundw
            case rel => exact ⟨n + 1, _, true, by go_num, rfl, rfl, by omega, ⟨hv0, hv1⟩, HV2, HN, HB⟩
            case measure => simp [intOf]; omega
          · have g2' : (v == 922337203685477580) = false := by simpa using g2
            clear hwd
            go_wp2_with fail
            refine (hdi _).mono ?_
            rintro e w1 ⟨rfl, rfl⟩
            clear hdi
            go_wp2_with fail
            go_roundw
            case rel => exact ⟨n + 1, v, true, by go_num, rfl, rfl, by omega, ⟨hv0, hv1⟩, HV2, HN, HB⟩
            case measure => simp [intOf]; omega
        | false =>
          by_cases hov : v > 922337203685477580 ∨ (v = 922337203685477580 ∧ (s[i + n].toNat : Int) > 55)
          · have HV2 : Hid (NmV (digs s i (n + 1)) v true) := by
              show NmV (digs s i (n + 1)) v true
              rw [hds]; exact HV.out.step hwd hov
            clear HV HA hds HF z0 z1 z2 z3 zf hcs
            rcases hov with g1 | ⟨rfl, g3⟩
            · clear hwd
              go_wp2_with fail
              refine (hdi _).mono ?_
              rintro e w1 ⟨rfl, rfl⟩
              clear hdi
              go_wp2_with fail
              go_roundw
              case rel => exact ⟨n + 1, _, true, by go_num, rfl, rfl, by omega, ⟨hv0, hv1⟩, HV2, HN, HB⟩
              case measure => simp [intOf]; omega
            · clear hwd
              go_wp2_with fail
              refine (hdi _).mono ?_
              rintro e w1 ⟨rfl, rfl⟩
              clear hdi
              go_wp2_with fail
              go_roundw
              case rel => exact ⟨n + 1, _, true, by go_num, rfl, rfl, by omega, ⟨hv0, hv1⟩, HV2, HN, HB⟩
              case measure => simp [intOf]; omega
          · have hp := HV.out.add hwd hov
            rw [← hds] at hp
            have HP := hidk hp
            obtain ⟨_, p1, p2⟩ := hp
            have g1 : ¬ v > 922337203685477580 := fun h => hov (Or.inl h)
            have g2 : v = 922337203685477580 → ¬ (s[i + n].toNat : Int) > 55 := fun h h' => hov (Or.inr ⟨h, h'⟩)
            clear HV HA hds HF z0 z1 z2 z3 zf hcs hov
            by_cases g3 : v = 922337203685477580
            · have g4 := g2 g3
              subst g3
              clear hwd g2
              go_wp2_with fail
              refine (hdi _).mono ?_
              rintro e w1 ⟨rfl, rfl⟩
              clear hdi
              go_wp2_with fail
              go_roundw
              case rel => exact ⟨n + 1, _, false, by go_num, rfl, rfl, by omega, ⟨HP.out.2.1, HP.out.2.2⟩, HP.out.1, HN, HB⟩
              case measure => simp [intOf]; omega
            · have g3' : (v == 922337203685477580) = false := by simpa using g3
              clear hwd g2
              go_wp2_with fail
              refine (hdi _).mono ?_
              rintro e w1 ⟨rfl, rfl⟩
              clear hdi
              go_wp2_with fail
              go_roundw
              case rel => exact ⟨n + 1, _, false, by go_num, rfl, rfl, by omega, ⟨HP.out.2.1, HP.out.2.2⟩, HP.out.1, HN, HB⟩
              case measure => simp [intOf]; omega
    · have tl : ¬ (i : Int) + (n : Int) < (s.size : Int) := by omega
      obtain ⟨e1, e2, e3⟩ := dg_end s hn HA.out (fun h => absurd h hlt)
      cases o with
      | true =>
        have HE := NmTo.over e2 HV.out
        clear e1 e2 e3
        go_wp2_with fail
        refine bodyPost_ret (v := .tuple #[.agg #[.int .i64 0, .string ⟨#[]⟩, .int .i64 0, .int .i64 0], .int .i64 0, .string ⟨#[50, 50, 48, 48, 51]⟩]) ?_ rfl ⟨HE, ?_⟩
        · simp [results, Tryz.results26, go_sem, z0, z1, z2, z3]
        · exact (((HC.out.setCell (p := ⟨w.heap.size, 0, none⟩) (Nat.le_refl _) _).setCell (p := ⟨w.heap.size, 1, none⟩) (Nat.le_refl _) _).setCell (p := ⟨w.heap.size, 2, none⟩) (Nat.le_refl _) _).setCell (p := ⟨w.heap.size, 3, none⟩) (Nat.le_refl _) _
      | false =>
        have HE := NmTo.ok e1 e2 e3 HV.out (fun h => absurd h hlt)
        clear e1 e2 e3
        go_wp2_with fail
        refine bodyPost_ret (v := .tuple #[.agg #[.int .i64 1, .string ⟨#[]⟩, .int .i64 v, .int .i64 i], .int .i64 n, .string ⟨#[48, 48, 48, 48, 48]⟩]) ?_ rfl ⟨HE, ?_⟩
        · simp [results, Tryz.results26, go_sem, z0, z1, z2, z3]
        · exact (((HC.out.setCell (p := ⟨w.heap.size, 0, none⟩) (Nat.le_refl _) _).setCell (p := ⟨w.heap.size, 1, none⟩) (Nat.le_refl _) _).setCell (p := ⟨w.heap.size, 2, none⟩) (Nat.le_refl _) _).setCell (p := ⟨w.heap.size, 3, none⟩) (Nat.le_refl _) _
end Go.Proofs.YtaenpacfbheppaaGreatDoor
namespace Go.Proofs.YtaenpacfbheppaaGreatDoor
open Go.RowKit

def DTo (st : Stp) (i : Nat) (e : Ending) : Prop := match st with
  | .no er => e = .returned (.tuple #[.agg #[.int .i64 0, .string ⟨#[]⟩, .int .i64 0, .int .i64 0], .int .i64 0, .string (stB er)])
  | .tk k t v n => e = .returned (.tuple #[.agg #[.int .i64 k, .string ⟨t.toArray⟩, .int .i64 v, .int .i64 i], .int .i64 n, .string ⟨#[48, 48, 48, 48, 48]⟩])
  | .bl _ => False
theorem WdTo.d {s : ByteArray} {i : Nat} {e : Ending} (h : WdTo s i e) : DTo (wdS (rest s i)) i e := by
  unfold WdTo at h
  unfold wdS
  split at h
  · rename_i h32
    rw [if_pos h32]
    exact h
  · rename_i h32
    rw [if_neg h32]
    exact h
theorem NmTo.d {s : ByteArray} {i : Nat} {e : Ending} (h : NmTo s i e) : DTo (nmS (rest s i)) i e := by
  unfold NmTo at h
  generalize ho : nmS (rest s i) = o at *
  unfold nmS at ho
  split at ho
  · subst ho; exact h
  · split at ho
    · subst ho; exact h
    · subst ho; exact h
theorem pre_len {s g : ByteArray} {i : Nat} (h : ¬ i + g.size ≤ s.size) (hi : i ≤ s.size) : g.data.toList.isPrefixOf (rest s i) = false := by
  cases hp : g.data.toList.isPrefixOf (rest s i) with
  | false => rfl
  | true =>
    exfalso
    have := (List.isPrefixOf_iff_prefix.1 hp).length_le
    rw [rest_len] at this
    simp at this
    omega
theorem pre_ext {s g : ByteArray} {i : Nat} (h : i + g.size ≤ s.size) : ((s.extract i (i + g.size)).toList == g.toList) = g.data.toList.isPrefixOf (rest s i) := by
  rw [Lib.toList_data, Lib.toList_data, ext_take]
  have hgl : g.data.toList.length = g.size := by simp
  cases hp : g.data.toList.isPrefixOf (rest s i) with
  | true =>
    have := List.prefix_iff_eq_take.1 (List.isPrefixOf_iff_prefix.1 hp)
    rw [hgl] at this
    rw [← this]
    simp
  | false =>
    rw [beq_eq_false_iff_ne]
    intro e
    have : g.data.toList.isPrefixOf (rest s i) = true := by
      rw [List.isPrefixOf_iff_prefix, ← e]
      exact List.take_prefix _ _
    rw [this] at hp
    cases hp
theorem new_at2 (w : World) (o : Obj) {B : Nat} (h : B = w.heap.size) : (w.alloc o).heap[B]? = some o := by subst h; exact heap_alloc_new _ _
theorem tok_box (w : World) (o : Obj) (W : World) (hW : Below ((w.alloc (.cells #[.int .i64 0, .string ⟨#[]⟩, .int .i64 0, .int .i64 0] 52)).alloc o).heap.size ((w.alloc (.cells #[.int .i64 0, .string ⟨#[]⟩, .int .i64 0, .int .i64 0] 52)).alloc o) W) : W.cell? ⟨w.heap.size, 0, none⟩ = some (.int .i64 0) ∧ W.cell? ⟨w.heap.size, 1, none⟩ = some (.string ⟨#[]⟩) ∧ W.cell? ⟨w.heap.size, 2, none⟩ = some (.int .i64 0) ∧ W.cell? ⟨w.heap.size, 3, none⟩ = some (.int .i64 0) ∧ (∀ o, W.frozen? ⟨w.heap.size, o, none⟩ = false) := by
  have e : W.heap[w.heap.size]? = some (.cells #[.int .i64 0, .string ⟨#[]⟩, .int .i64 0, .int .i64 0] 52) :=
    ((hW.block w.heap.size (by simp; omega)).trans ((((Below.refl _ _).alloc (Nat.le_refl _) o).block w.heap.size (by simp)))).trans (heap_alloc_new w _)
  refine ⟨by rw [cell_of_row W _ 0 _ _ _ e]; rfl, by rw [cell_of_row W _ 1 _ _ _ e]; rfl, by rw [cell_of_row W _ 2 _ _ _ e]; rfl, by rw [cell_of_row W _ 3 _ _ _ e]; rfl, fun o => by simp [World.frozen?, e]⟩
theorem sg_cells (w : World) (k : Nat) (hk : k < 16) (o : Obj) (W : World) (hW : Below ((w.alloc o).alloc (.cells #[.string ⟨#[60, 61]⟩, .string ⟨#[62, 61]⟩, .string ⟨#[60, 62]⟩, .string ⟨#[124, 124]⟩, .string ⟨#[40]⟩, .string ⟨#[41]⟩, .string ⟨#[44]⟩, .string ⟨#[46]⟩, .string ⟨#[59]⟩, .string ⟨#[61]⟩, .string ⟨#[60]⟩, .string ⟨#[62]⟩, .string ⟨#[43]⟩, .string ⟨#[45]⟩, .string ⟨#[42]⟩, .string ⟨#[47]⟩] 9)).heap.size ((w.alloc o).alloc (.cells #[.string ⟨#[60, 61]⟩, .string ⟨#[62, 61]⟩, .string ⟨#[60, 62]⟩, .string ⟨#[124, 124]⟩, .string ⟨#[40]⟩, .string ⟨#[41]⟩, .string ⟨#[44]⟩, .string ⟨#[46]⟩, .string ⟨#[59]⟩, .string ⟨#[61]⟩, .string ⟨#[60]⟩, .string ⟨#[62]⟩, .string ⟨#[43]⟩, .string ⟨#[45]⟩, .string ⟨#[42]⟩, .string ⟨#[47]⟩] 9)) W) : W.cell? ⟨w.heap.size + 1, k, none⟩ = some (.string ⟨(sgA k).toArray⟩) := by
  have e := (hW.block (w.heap.size + 1) (by simp)).trans (new_at2 (w.alloc o) _ (by simp))
  rw [cell_of_row W _ k _ _ _ e]
  refine lt16 (P := fun k => (#[Value.string ⟨#[60, 61]⟩, .string ⟨#[62, 61]⟩, .string ⟨#[60, 62]⟩, .string ⟨#[124, 124]⟩, .string ⟨#[40]⟩, .string ⟨#[41]⟩, .string ⟨#[44]⟩, .string ⟨#[46]⟩, .string ⟨#[59]⟩, .string ⟨#[61]⟩, .string ⟨#[60]⟩, .string ⟨#[62]⟩, .string ⟨#[43]⟩, .string ⟨#[45]⟩, .string ⟨#[42]⟩, .string ⟨#[47]⟩] : Array Value)[k]? = some (.string ⟨(sgA k).toArray⟩)) ?_ ?_ ?_ ?_ ?_ ?_ ?_ ?_ ?_ ?_ ?_ ?_ ?_ ?_ ?_ ?_ k hk <;> rfl
theorem sign_ref (s : ByteArray) (hs : s.size ≤ 10000) {i : Nat} (hi : i < s.size) (w : World) : Calls Tryz.prog 28 #[.string s, .int .i64 i] w fun e w' => DTo (sgS (rest s i)) i e ∧ Below w.heap.size w w' := by
  obtain ⟨o, ho⟩ : ∃ o, o = sgS (rest s i) := ⟨_, rfl⟩
  rw [← ho]
  have HOO := hidk ho
  clear ho
  go_enter Tryz.func28, Tryz.ntmps28
  go_wp2_with fail
  have HC := hidk (fun k hk W hW => sg_cells w k hk (.cells #[.int .i64 0, .string ⟨#[]⟩, .int .i64 0, .int .i64 0] 52) W hW)
  have hnew := fun W hW => tok_box w (.cells #[.string ⟨#[60, 61]⟩, .string ⟨#[62, 61]⟩, .string ⟨#[60, 62]⟩, .string ⟨#[124, 124]⟩, .string ⟨#[40]⟩, .string ⟨#[41]⟩, .string ⟨#[44]⟩, .string ⟨#[46]⟩, .string ⟨#[59]⟩, .string ⟨#[61]⟩, .string ⟨#[60]⟩, .string ⟨#[62]⟩, .string ⟨#[43]⟩, .string ⟨#[45]⟩, .string ⟨#[42]⟩, .string ⟨#[47]⟩] 9) W hW
  have HF := hidk hnew
  have HW : Hid (Below w.heap.size w ((w.alloc (.cells #[.int .i64 0, .string ⟨#[]⟩, .int .i64 0, .int .i64 0] 52)).alloc (.cells #[.string ⟨#[60, 61]⟩, .string ⟨#[62, 61]⟩, .string ⟨#[60, 62]⟩, .string ⟨#[124, 124]⟩, .string ⟨#[40]⟩, .string ⟨#[41]⟩, .string ⟨#[44]⟩, .string ⟨#[46]⟩, .string ⟨#[59]⟩, .string ⟨#[61]⟩, .string ⟨#[60]⟩, .string ⟨#[62]⟩, .string ⟨#[43]⟩, .string ⟨#[45]⟩, .string ⟨#[42]⟩, .string ⟨#[47]⟩] 9))) := ((Below.refl _ _).alloc (Nat.le_refl _) _).alloc (by simp) _
  clear hnew
  generalize (w.alloc (.cells #[.int .i64 0, .string ⟨#[]⟩, .int .i64 0, .int .i64 0] 52)).alloc (.cells #[.string ⟨#[60, 61]⟩, .string ⟨#[62, 61]⟩, .string ⟨#[60, 62]⟩, .string ⟨#[124, 124]⟩, .string ⟨#[40]⟩, .string ⟨#[41]⟩, .string ⟨#[44]⟩, .string ⟨#[46]⟩, .string ⟨#[59]⟩, .string ⟨#[61]⟩, .string ⟨#[60]⟩, .string ⟨#[62]⟩, .string ⟨#[43]⟩, .string ⟨#[45]⟩, .string ⟨#[42]⟩, .string ⟨#[47]⟩] 9) = w0 at *
  go_loopw [8] (fun x wr => ∃ k : Nat, x = .int .i64 k ∧ k ≤ 16 ∧ Hid (∀ j, j < k → (sgA j).isPrefixOf (rest s i) = false) ∧ Hid (Below w0.heap.size w0 wr)) (fun x _ => 16 - (intOf x).toNat)
  case atStart => exact ⟨0, rfl, by omega, fun j hj => by omega, Below.refl _ _⟩
  case round =>
    rename World => wr
    obtain ⟨k, rfl, hk, HN, HB⟩ := hrel
    obtain ⟨z0, z1, z2, z3, zf⟩ := HF.out wr HB.out
    have HCW : Hid (Below w.heap.size w wr) := HW.out.trans (HB.out.mono HW.out.size)
    by_cases hlt : k < 16
    · have tl : (k : Int) < 16 := by omega
      have hc := HC.out k hlt wr HB.out
      have hgl : (⟨(sgA k).toArray⟩ : ByteArray).data.toList = sgA k := rfl
      have hg2 : (⟨(sgA k).toArray⟩ : ByteArray).size = (sgA k).length := by rw [size_of_list]
      by_cases hle : i + (⟨(sgA k).toArray⟩ : ByteArray).size ≤ s.size
      · have hpe := pre_ext (g := ⟨(sgA k).toArray⟩) hle
        rw [hgl] at hpe
        cases hpre : (sgA k).isPrefixOf (rest s i) with
        | true =>
          rw [hpre] at hpe
          have hsg := HOO.out.trans (sg_find hlt HN.out hpre)
          subst hsg
          have HD : Hid (DTo (.tk 3 (sgA k) 0 (sgA k).length) i (.returned (.tuple #[.agg #[.int .i64 3, .string ⟨(sgA k).toArray⟩, .int .i64 0, .int .i64 i], .int .i64 ((⟨(sgA k).toArray⟩ : ByteArray).size : Nat), .string ⟨#[48, 48, 48, 48, 48]⟩]))) := by
            show _ = _
            rw [hg2]
          clear HN HC HF HOO hgl hg2
          generalize (⟨(sgA k).toArray⟩ : ByteArray) = g at *
          have tle : (i : Int) + (g.size : Int) ≤ (s.size : Int) := by omega
          have hgs : g.size ≤ 10000 := by omega
          go_wp2_with fail
          go_quiet (fail)
          rename Nat => nq
          have HBq : Hid (Below w0.heap.size w0 (wr.drewN nq)) := HB.out.trans ⟨rfl, rfl, rfl, Nat.le_refl _, fun _ _ => rfl⟩
          have HCq : Hid (Below w.heap.size w (wr.drewN nq)) := HCW.out.trans ⟨rfl, rfl, rfl, Nat.le_refl _, fun _ _ => rfl⟩
          have y0 : (wr.drewN nq).cell? ⟨w.heap.size, 0, none⟩ = some (.int .i64 0) := z0
          have y1 : (wr.drewN nq).cell? ⟨w.heap.size, 1, none⟩ = some (.string ⟨#[]⟩) := z1
          have y2 : (wr.drewN nq).cell? ⟨w.heap.size, 2, none⟩ = some (.int .i64 0) := z2
          have y3 : (wr.drewN nq).cell? ⟨w.heap.size, 3, none⟩ = some (.int .i64 0) := z3
          have yf : ∀ o, (wr.drewN nq).frozen? ⟨w.heap.size, o, none⟩ = false := zf
          have yc : (wr.drewN nq).cell? ⟨w.heap.size + 1, k, none⟩ = some (.string g) := hc
          clear z0 z1 z2 z3 zf hc HB HCW
          generalize wr.drewN nq = wq at *
          go_wp2_with fail
          refine bodyPost_ret (v := .tuple #[.agg #[.int .i64 3, .string g, .int .i64 0, .int .i64 i], .int .i64 (g.size : Nat), .string ⟨#[48, 48, 48, 48, 48]⟩]) ?_ rfl ⟨HD.out, ?_⟩
          · simp [results, Tryz.results28, go_sem, y0, y1, y2, y3]
          · exact (((HCq.out.setCell (p := ⟨w.heap.size, 0, none⟩) (Nat.le_refl _) _).setCell (p := ⟨w.heap.size, 1, none⟩) (Nat.le_refl _) _).setCell (p := ⟨w.heap.size, 2, none⟩) (Nat.le_refl _) _).setCell (p := ⟨w.heap.size, 3, none⟩) (Nat.le_refl _) _
        | false =>
          rw [hpre] at hpe
          have HN2 : Hid (∀ j, j < k + 1 → (sgA j).isPrefixOf (rest s i) = false) := fun j hj => by
            by_cases e : j = k
            · subst e; exact hpre
            · exact HN.out j (by omega)
          clear HN HC HF HOO hgl hg2 hpre
          generalize (⟨(sgA k).toArray⟩ : ByteArray) = g at *
          have tle : (i : Int) + (g.size : Int) ≤ (s.size : Int) := by omega
          have hgs : g.size ≤ 10000 := by omega
          go_wp2_with fail
          go_quiet (fail)
          rename Nat => nq
          have HBq : Hid (Below w0.heap.size w0 (wr.drewN nq)) := HB.out.trans ⟨rfl, rfl, rfl, Nat.le_refl _, fun _ _ => rfl⟩
          have HCq : Hid (Below w.heap.size w (wr.drewN nq)) := HCW.out.trans ⟨rfl, rfl, rfl, Nat.le_refl _, fun _ _ => rfl⟩
          have y0 : (wr.drewN nq).cell? ⟨w.heap.size, 0, none⟩ = some (.int .i64 0) := z0
          have y1 : (wr.drewN nq).cell? ⟨w.heap.size, 1, none⟩ = some (.string ⟨#[]⟩) := z1
          have y2 : (wr.drewN nq).cell? ⟨w.heap.size, 2, none⟩ = some (.int .i64 0) := z2
          have y3 : (wr.drewN nq).cell? ⟨w.heap.size, 3, none⟩ = some (.int .i64 0) := z3
          have yf : ∀ o, (wr.drewN nq).frozen? ⟨w.heap.size, o, none⟩ = false := zf
          have yc : (wr.drewN nq).cell? ⟨w.heap.size + 1, k, none⟩ = some (.string g) := hc
          clear z0 z1 z2 z3 zf hc HB HCW
          generalize wr.drewN nq = wq at *
          go_wp2_with fail
          exact ⟨⟨k + 1, by go_num, by omega, HN2, HBq⟩, by simp [intOf]; omega⟩
      · have hpre := pre_len (g := ⟨(sgA k).toArray⟩) hle (by omega)
        rw [hgl] at hpre
        have HN2 : Hid (∀ j, j < k + 1 → (sgA j).isPrefixOf (rest s i) = false) := fun j hj => by
          by_cases e : j = k
          · subst e; exact hpre
          · exact HN.out j (by omega)
        have hgs0 : (sgA k).length ≤ 2 := lt16 (P := fun k => (sgA k).length ≤ 2) (by decide) (by decide) (by decide) (by decide) (by decide) (by decide) (by decide) (by decide) (by decide) (by decide) (by decide) (by decide) (by decide) (by decide) (by decide) (by decide) k hlt
        have hgs : (⟨(sgA k).toArray⟩ : ByteArray).size ≤ 10000 := by omega
        clear HN HC HF HOO hgl hg2 hpre hgs0
        generalize (⟨(sgA k).toArray⟩ : ByteArray) = g at *
        have tle : ¬ (i : Int) + (g.size : Int) ≤ (s.size : Int) := by omega
        go_wp2_with fail
        have tdf : decide (IntKind.i64.wrap ((i : Int) + (g.size : Int)) ≤ (s.size : Int)) = false := by
          have twr : IntKind.i64.wrap ((i : Int) + (g.size : Int)) = (i : Int) + (g.size : Int) := by rw [IntKind.wrap_i64]; omega
          rw [twr]; exact decide_eq_false (by omega)
        have twr : IntKind.i64.wrap ((i : Int) + (g.size : Int)) = (i : Int) + (g.size : Int) := by rw [IntKind.wrap_i64]; omega
        have tdg : decide ((i : Int) + (g.size : Int) ≤ (s.size : Int)) = false := decide_eq_false (by omega)
        clear tle tdf
        go_quiet (fail)
        rename Nat => nq
        have HBq : Hid (Below w0.heap.size w0 (wr.drewN nq)) := HB.out.trans ⟨rfl, rfl, rfl, Nat.le_refl _, fun _ _ => rfl⟩
        have HCq : Hid (Below w.heap.size w (wr.drewN nq)) := HCW.out.trans ⟨rfl, rfl, rfl, Nat.le_refl _, fun _ _ => rfl⟩
        have y0 : (wr.drewN nq).cell? ⟨w.heap.size, 0, none⟩ = some (.int .i64 0) := z0
        have y1 : (wr.drewN nq).cell? ⟨w.heap.size, 1, none⟩ = some (.string ⟨#[]⟩) := z1
        have y2 : (wr.drewN nq).cell? ⟨w.heap.size, 2, none⟩ = some (.int .i64 0) := z2
        have y3 : (wr.drewN nq).cell? ⟨w.heap.size, 3, none⟩ = some (.int .i64 0) := z3
        have yf : ∀ o, (wr.drewN nq).frozen? ⟨w.heap.size, o, none⟩ = false := zf
        have yc : (wr.drewN nq).cell? ⟨w.heap.size + 1, k, none⟩ = some (.string g) := hc
        clear z0 z1 z2 z3 zf hc HB HCW
        generalize wr.drewN nq = wq at *
        go_wp2_with fail
        exact ⟨⟨k + 1, by go_num, by omega, HN2, HBq⟩, by simp [intOf]; omega⟩
    · have tl : ¬ (k : Int) < 16 := by omega
      have hsg := HOO.out.trans (sg_none (fun j hj => HN.out j (by omega)))
      subst hsg
      have HD : Hid (DTo (.no 1) i (.returned (.tuple #[.agg #[.int .i64 0, .string ⟨#[]⟩, .int .i64 0, .int .i64 0], .int .i64 0, .string ⟨#[52, 50, 54, 48, 49]⟩]))) := rfl
      clear HN HC HF HOO
      go_wp2_with fail
      refine bodyPost_ret (v := .tuple #[.agg #[.int .i64 0, .string ⟨#[]⟩, .int .i64 0, .int .i64 0], .int .i64 0, .string ⟨#[52, 50, 54, 48, 49]⟩]) ?_ rfl ⟨HD.out, ?_⟩
      · simp [results, Tryz.results28, go_sem, z0, z1, z2, z3]
      · exact (((HCW.out.setCell (p := ⟨w.heap.size, 0, none⟩) (Nat.le_refl _) _).setCell (p := ⟨w.heap.size, 1, none⟩) (Nat.le_refl _) _).setCell (p := ⟨w.heap.size, 2, none⟩) (Nat.le_refl _) _).setCell (p := ⟨w.heap.size, 3, none⟩) (Nat.le_refl _) _
end Go.Proofs.YtaenpacfbheppaaGreatDoor
namespace Go.Proofs.YtaenpacfbheppaaGreatDoor
open Go.RowKit

theorem isTx_I (c : UInt8) : isTx c = (decide (32 ≤ (c.toNat : Int)) && decide ((c.toNat : Int) ≤ 126)) := by
  have : ∀ n : Fin 256, isTx (UInt8.ofNat n.val) = (decide (32 ≤ ((UInt8.ofNat n.val).toNat : Int)) && decide (((UInt8.ofNat n.val).toNat : Int) ≤ 126)) := by decide +kernel
  have h := this ⟨c.toNat, c.toNat_lt⟩
  simpa only [UInt8.ofNat_toNat] using h
structure TX (w0 wr : World) (s : ByteArray) (i k : Nat) (v : Value) (xs : List UInt8) : Prop where
  own : OwnB w0.heap.size wr v xs
  bl : Below w0.heap.size w0 wr
  tx : txN (rest s (i + 1)) = (txN (rest s k)).map fun x => (xs ++ x.1, x.2 + (k - (i + 1)))
  len : xs.length ≤ k
  ge : i + 1 ≤ k
theorem txN_ne {c : UInt8} {r : List UInt8} (h : c ≠ 39) : txN (c :: r) = (txN r).map fun p => (c :: p.1, p.2 + 1) := by
  rw [txN.eq_def]
  have : (c == 39) = false := by simpa using h
  simp [this]
theorem TX.plain {w0 wr wr' : World} {s : ByteArray} {i k : Nat} {v v' : Value} {xs : List UInt8} (h : TX w0 wr s i k v xs) (hk : k < s.size) (hc : s[k] ≠ 39) (ho : OwnB w0.heap.size wr' v' (xs ++ [s[k]])) (hb : Below w0.heap.size wr wr') : TX w0 wr' s i (k + 1) v' (xs ++ [s[k]]) := by
  refine ⟨ho, h.bl.trans hb, ?_, by have := h.len; simp; omega, by have := h.ge; omega⟩
  have := h.ge
  rw [h.tx, rest_at s hk, txN_ne hc]
  cases txN (rest s (k + 1)) with
  | none => rfl
  | some x => simp; omega
theorem TX.two {w0 wr wr' : World} {s : ByteArray} {i k : Nat} {v v' : Value} {xs : List UInt8} (h : TX w0 wr s i k v xs) (hk : k + 1 < s.size) (hc : s[k] = 39) (hd : s[k + 1] = 39) (ho : OwnB w0.heap.size wr' v' (xs ++ [39])) (hb : Below w0.heap.size wr wr') : TX w0 wr' s i (k + 1 + 1) v' (xs ++ [39]) := by
  refine ⟨ho, h.bl.trans hb, ?_, by have := h.len; simp; omega, by have := h.ge; omega⟩
  have := h.ge
  rw [h.tx, rest_at s (show k < s.size by omega), rest_at s hk, hc, hd, txN_two]
  cases txN (rest s (k + 1 + 1)) with
  | none => rfl
  | some x => simp; omega
theorem TX.done {w0 wr : World} {s : ByteArray} {i k : Nat} {v : Value} {xs : List UInt8} (h : TX w0 wr s i k v xs) (hk : k < s.size) (hc : s[k] = 39) (hd : ∀ h : k + 1 < s.size, s[k + 1] ≠ 39) : txS (rest s (i + 1)) = if xs.all isTx then if 400 < xs.length then .no 3 else .tk 2 xs 0 (k + 1 - i) else .no 1 := by
  have hge := h.ge
  have hn : ([39] : List UInt8).isPrefixOf (rest s (k + 1)) = false := by
    by_cases hk1 : k + 1 < s.size
    · rw [rest_at s hk1]
      have := hd hk1
      simp only [List.isPrefixOf, Bool.and_true, beq_eq_false_iff_ne]
      exact fun e => this e.symm
    · rw [rest_end s (by omega)]
      rfl
  have e : txN (rest s (i + 1)) = some (xs, k - i) := by
    rw [h.tx, rest_at s hk, hc, txN_last hn]
    simp; omega
  unfold txS
  rw [e]
  simp only
  rw [show k - i + 1 = k + 1 - i by omega]
theorem TX.open_ {w0 wr : World} {s : ByteArray} {i k : Nat} {v : Value} {xs : List UInt8} (h : TX w0 wr s i k v xs) (hk : s.size ≤ k) : txS (rest s (i + 1)) = .no 1 := by
  unfold txS
  rw [h.tx, rest_end s hk]
  rfl
theorem tok_box0 (w : World) (W : World) (hW : Below (w.alloc (.cells #[.int .i64 0, .string ⟨#[]⟩, .int .i64 0, .int .i64 0] 52)).heap.size (w.alloc (.cells #[.int .i64 0, .string ⟨#[]⟩, .int .i64 0, .int .i64 0] 52)) W) : W.cell? ⟨w.heap.size, 0, none⟩ = some (.int .i64 0) ∧ W.cell? ⟨w.heap.size, 1, none⟩ = some (.string ⟨#[]⟩) ∧ W.cell? ⟨w.heap.size, 2, none⟩ = some (.int .i64 0) ∧ W.cell? ⟨w.heap.size, 3, none⟩ = some (.int .i64 0) ∧ (∀ o, W.frozen? ⟨w.heap.size, o, none⟩ = false) := by
  have e : W.heap[w.heap.size]? = some (.cells #[.int .i64 0, .string ⟨#[]⟩, .int .i64 0, .int .i64 0] 52) := (hW.block w.heap.size (by simp)).trans (heap_alloc_new w _)
  refine ⟨by rw [cell_of_row W _ 0 _ _ _ e]; rfl, by rw [cell_of_row W _ 1 _ _ _ e]; rfl, by rw [cell_of_row W _ 2 _ _ _ e]; rfl, by rw [cell_of_row W _ 3 _ _ _ e]; rfl, fun o => by simp [World.frozen?, e]⟩
theorem text_ref (s : ByteArray) (hs : s.size ≤ 10000) {i : Nat} (hi : i < s.size) (w : World) : Calls Tryz.prog 27 #[.string s, .int .i64 i] w fun e w' => DTo (txS (rest s (i + 1))) i e ∧ Below w.heap.size w w' := by
  obtain ⟨o, ho⟩ : ∃ o, o = txS (rest s (i + 1)) := ⟨_, rfl⟩
  rw [← ho]
  have HOO := hidk ho
  clear ho
  go_enter Tryz.func27, Tryz.ntmps27
  go_wp2_with fail
  have HF := hidk (tok_box0 w)
  have HW : Hid (Below w.heap.size w (w.alloc (.cells #[.int .i64 0, .string ⟨#[]⟩, .int .i64 0, .int .i64 0] 52))) := (Below.refl _ _).alloc (Nat.le_refl _) _
  have HSZ : Hid ((w.alloc (.cells #[.int .i64 0, .string ⟨#[]⟩, .int .i64 0, .int .i64 0] 52)).heap.size = w.heap.size + 1) := by show _ = _; simp
  generalize w.alloc (.cells #[.int .i64 0, .string ⟨#[]⟩, .int .i64 0, .int .i64 0] 52) = w0 at *
  go_loopw [7, 8, 9] (fun x7 x8 x9 wr => ∃ (k cap : Nat) (ao : Option Addr) (xs : List UInt8) (g : Bool), x7 = .slice ao xs.length cap ∧ x8 = .bool g ∧ x9 = .int .i64 k ∧ k ≤ s.size ∧ Hid (g = xs.all isTx) ∧ Hid (TX w0 wr s i k (.slice ao xs.length cap) xs)) (fun _ _ x9 _ => s.size - (intOf x9).toNat)
  case atStart => exact ⟨i + 1, 0, none, [], true, rfl, rfl, by go_num, by omega, rfl, ⟨OwnB.nil_ _ _, Below.refl _ _, by cases txN (rest s (i + 1)) <;> simp, by simp, Nat.le_refl _⟩⟩
  case round =>
    rename World => wr
    obtain ⟨k, cap, ao, xs, g, rfl, rfl, rfl, hk, HG, HT⟩ := hrel
    obtain ⟨z0, z1, z2, z3, zf⟩ := HF.out wr HT.out.bl
    have HCW : Hid (Below w.heap.size w wr) := HW.out.trans (HT.out.bl.mono HW.out.size)
    have hxl := HT.out.len
    have hge := HT.out.ge
    by_cases hlt : k < s.size
    · have tl : (k : Int) < (s.size : Int) := by omega
      by_cases h39 : (s[k].toNat : Int) = 39
      · have e39 : s[k] = 39 := (u8_eq (n := 39) (by omega)).1 h39
        by_cases hnx : ∃ h : k + 1 < s.size, (s[k + 1].toNat : Int) = 39
        · obtain ⟨hk1, h39b⟩ := hnx
          have e39b : s[k + 1] = 39 := (u8_eq (n := 39) (by omega)).1 h39b
          have tl1 : (k : Int) + 1 < (s.size : Int) := by omega
          have hown := HT.out.own
          have hbase : w0.heap.size ≤ wr.heap.size := HT.out.bl.size
          have hl6 : xs.length + 1 ≤ 140737488355328 := by omega
          have HTN : Hid (∀ v' w', OwnB w0.heap.size w' v' (xs ++ [39]) → Below w0.heap.size (wr.alloc (.cells #[.int .u8 39] 5)) w' → TX w0 w' s i (k + 1 + 1) v' (xs ++ [39])) := fun v' w' h1 h2 => HT.out.two hk1 e39 e39b h1 (((Below.refl _ _).alloc hbase _).trans h2)
          have HG' : Hid (g = (xs ++ [39]).all isTx) := by
            show _ = _
            rw [List.all_append, ← HG.out]
            simp [show isTx 39 = true from rfl]
          clear HOO HG HF HW HCW HSZ HT z0 z1 z2 z3 zf
          go_wp2_with (at_builtin; refine wp_app1 _ rfl _ _ rfl w0.heap.size _ xs rfl (hown.alloc _) wr.heap.size 39 39 rfl rfl (heap_alloc_new wr _) hl6 (by simp; omega) ?_)
          intro v7 w7 hown7 hb7
          have HT7 := hidk (HTN.out v7 w7 hown7 hb7)
          obtain ⟨ao7, cap7, hv7⟩ := hown7.form
          subst hv7
          clear hown7 hb7 HTN hown
          generalize xs ++ [39] = ys at *
          go_wp2_with fail
          go_roundw
          case rel => exact ⟨k + 1 + 1, cap7, ao7, ys, _, rfl, rfl, by go_num, by omega, HG', HT7⟩
          case measure => simp [intOf]; omega
        · have hdone := HOO.out.trans (HT.out.done hlt e39 (fun h e => hnx ⟨h, by rw [e]; rfl⟩))
          have hcb := own_back HT.out.own
          rw [← HG.out] at hdone
          have hcs : (¬ (k : Int) + 1 < (s.size : Int)) ∨ (∃ h : k + 1 < s.size, (k : Int) + 1 < (s.size : Int) ∧ ((s[k + 1].toNat : Int) == 39) = false) := by
            by_cases h : k + 1 < s.size
            · exact Or.inr ⟨h, by omega, by rw [beq_eq_false_iff_ne]; exact fun e => hnx ⟨h, e⟩⟩
            · exact Or.inl (by omega)
          clear HOO HG HF HW HSZ HT hnx
          have hans : (g = false ∧ o = .no 1) ∨ (g = true ∧ (xs.length : Int) > 400 ∧ o = .no 3) ∨ (g = true ∧ ¬ (xs.length : Int) > 400 ∧ o = .tk 2 xs 0 (k + 1 - i)) := by
            cases g with
            | false => exact Or.inl ⟨rfl, by simpa using hdone⟩
            | true =>
              rw [if_pos rfl] at hdone
              by_cases h4 : 400 < xs.length
              · exact Or.inr (Or.inl ⟨rfl, by omega, by rw [hdone, if_pos h4]⟩)
              · exact Or.inr (Or.inr ⟨rfl, by omega, by rw [hdone, if_neg h4]⟩)
          clear hdone
          rcases hans with ⟨rfl, rfl⟩ | ⟨rfl, h4, rfl⟩ | ⟨rfl, h4, rfl⟩
          · have HD : Hid (DTo (.no 1) i (.returned (.tuple #[.agg #[.int .i64 0, .string ⟨#[]⟩, .int .i64 0, .int .i64 0], .int .i64 0, .string ⟨#[52, 50, 54, 48, 49]⟩]))) := rfl
            clear hcb
            rcases hcs with t1 | ⟨h1, t1, t2⟩
            all_goals
              go_wp2_with fail
              refine bodyPost_ret (v := .tuple #[.agg #[.int .i64 0, .string ⟨#[]⟩, .int .i64 0, .int .i64 0], .int .i64 0, .string ⟨#[52, 50, 54, 48, 49]⟩]) ?_ rfl ⟨HD.out, ?_⟩
              · simp [results, Tryz.results27, go_sem, z0, z1, z2, z3]
              · exact (((HCW.out.setCell (p := ⟨w.heap.size, 0, none⟩) (Nat.le_refl _) _).setCell (p := ⟨w.heap.size, 1, none⟩) (Nat.le_refl _) _).setCell (p := ⟨w.heap.size, 2, none⟩) (Nat.le_refl _) _).setCell (p := ⟨w.heap.size, 3, none⟩) (Nat.le_refl _) _
          · have HD : Hid (DTo (.no 3) i (.returned (.tuple #[.agg #[.int .i64 0, .string ⟨#[]⟩, .int .i64 0, .int .i64 0], .int .i64 0, .string ⟨#[50, 50, 48, 48, 49]⟩]))) := rfl
            clear hcb
            rcases hcs with t1 | ⟨h1, t1, t2⟩
            all_goals
              go_wp2_with fail
              refine bodyPost_ret (v := .tuple #[.agg #[.int .i64 0, .string ⟨#[]⟩, .int .i64 0, .int .i64 0], .int .i64 0, .string ⟨#[50, 50, 48, 48, 49]⟩]) ?_ rfl ⟨HD.out, ?_⟩
              · simp [results, Tryz.results27, go_sem, z0, z1, z2, z3]
              · exact (((HCW.out.setCell (p := ⟨w.heap.size, 0, none⟩) (Nat.le_refl _) _).setCell (p := ⟨w.heap.size, 1, none⟩) (Nat.le_refl _) _).setCell (p := ⟨w.heap.size, 2, none⟩) (Nat.le_refl _) _).setCell (p := ⟨w.heap.size, 3, none⟩) (Nat.le_refl _) _
          · have HD : Hid (DTo (.tk 2 xs 0 (k + 1 - i)) i (.returned (.tuple #[.agg #[.int .i64 2, .string ⟨xs.toArray⟩, .int .i64 0, .int .i64 i], .int .i64 ((k : Int) + 1 - i), .string ⟨#[48, 48, 48, 48, 48]⟩]))) := by
              show _ = _
              rw [show (((k + 1 - i : Nat) : Int)) = (k : Int) + 1 - i by omega]
            generalize (⟨xs.toArray⟩ : ByteArray) = tb at *
            rcases hcs with t1 | ⟨h1, t1, t2⟩
            all_goals
              go_wp2_with fail
              refine bodyPost_ret (v := .tuple #[.agg #[.int .i64 2, .string tb, .int .i64 0, .int .i64 i], .int .i64 ((k : Int) + 1 - i), .string ⟨#[48, 48, 48, 48, 48]⟩]) ?_ rfl ⟨HD.out, ?_⟩
              · simp [results, Tryz.results27, go_sem, z0, z1, z2, z3]
              · exact (((HCW.out.setCell (p := ⟨w.heap.size, 0, none⟩) (Nat.le_refl _) _).setCell (p := ⟨w.heap.size, 1, none⟩) (Nat.le_refl _) _).setCell (p := ⟨w.heap.size, 2, none⟩) (Nat.le_refl _) _).setCell (p := ⟨w.heap.size, 3, none⟩) (Nat.le_refl _) _
      · have e39 : s[k] ≠ 39 := fun e => h39 (by rw [e]; rfl)
        have h39' : ((s[k].toNat : Int) == 39) = false := by simpa using h39
        have hgc : ∃ g', Hid (g' = (xs ++ [s[k]]).all isTx) ∧ ((g = false ∧ g' = false) ∨ (g = true ∧ ¬ 32 ≤ (s[k].toNat : Int) ∧ g' = false) ∨ (g = true ∧ 32 ≤ (s[k].toNat : Int) ∧ ¬ (s[k].toNat : Int) ≤ 126 ∧ g' = false) ∨ (g = true ∧ 32 ≤ (s[k].toNat : Int) ∧ (s[k].toNat : Int) ≤ 126 ∧ g' = true)) := by
          refine ⟨_, rfl, ?_⟩
          rw [List.all_append, ← HG.out]
          simp only [List.all_cons, List.all_nil, Bool.and_true]
          rw [isTx_I]
          cases g with
          | false => exact Or.inl ⟨rfl, rfl⟩
          | true =>
            by_cases a1 : 32 ≤ (s[k].toNat : Int)
            · by_cases a2 : (s[k].toNat : Int) ≤ 126
              · exact Or.inr (Or.inr (Or.inr ⟨rfl, a1, a2, by simp [a1, a2]⟩))
              · exact Or.inr (Or.inr (Or.inl ⟨rfl, a1, a2, by simp [a1, a2]⟩))
            · exact Or.inr (Or.inl ⟨rfl, a1, by simp [a1]⟩)
        obtain ⟨g', HG', hgs⟩ := hgc
        have hown := HT.out.own
        have hbase : w0.heap.size ≤ wr.heap.size := HT.out.bl.size
        have hl6 : xs.length + 1 ≤ 140737488355328 := by omega
        have HTN : Hid (∀ v' w', OwnB w0.heap.size w' v' (xs ++ [s[k]]) → Below w0.heap.size (wr.alloc (.cells #[.int .u8 (s[k].toNat : Int)] 5)) w' → TX w0 w' s i (k + 1) v' (xs ++ [s[k]])) := fun v' w' h1 h2 => HT.out.plain hlt e39 h1 (((Below.refl _ _).alloc hbase _).trans h2)
        clear HOO HG HF HW HCW HSZ HT z0 z1 z2 z3 zf
        rcases hgs with ⟨rfl, rfl⟩ | ⟨rfl, a1, rfl⟩ | ⟨rfl, a1, a2, rfl⟩ | ⟨rfl, a1, a2, rfl⟩
        all_goals
          go_wp2_with (at_builtin; refine wp_app1 _ rfl _ _ rfl w0.heap.size _ xs rfl (hown.alloc _) wr.heap.size s[k] (s[k].toNat : Int) rfl rfl (heap_alloc_new wr _) hl6 (by simp; omega) ?_)
          intro v7 w7 hown7 hb7
          have HT7 := hidk (HTN.out v7 w7 hown7 hb7)
          obtain ⟨ao7, cap7, hv7⟩ := hown7.form
          subst hv7
          clear hown7 hb7 HTN hown
          generalize xs ++ [s[k]] = ys at *
          go_wp2_with fail
          go_roundw
          case rel => exact ⟨k + 1, cap7, ao7, ys, _, rfl, rfl, by go_num, by omega, HG', HT7⟩
          case measure => simp [intOf]; omega
    · have tl : ¬ (k : Int) < (s.size : Int) := by omega
      have hsg := HOO.out.trans (HT.out.open_ (by omega))
      subst hsg
      have HD : Hid (DTo (.no 1) i (.returned (.tuple #[.agg #[.int .i64 0, .string ⟨#[]⟩, .int .i64 0, .int .i64 0], .int .i64 0, .string ⟨#[52, 50, 54, 48, 49]⟩]))) := rfl
      clear HOO HG HF HW HSZ HT
      go_wp2_with fail
      refine bodyPost_ret (v := .tuple #[.agg #[.int .i64 0, .string ⟨#[]⟩, .int .i64 0, .int .i64 0], .int .i64 0, .string ⟨#[52, 50, 54, 48, 49]⟩]) ?_ rfl ⟨HD.out, ?_⟩
      · simp [results, Tryz.results27, go_sem, z0, z1, z2, z3]
      · exact (((HCW.out.setCell (p := ⟨w.heap.size, 0, none⟩) (Nat.le_refl _) _).setCell (p := ⟨w.heap.size, 1, none⟩) (Nat.le_refl _) _).setCell (p := ⟨w.heap.size, 2, none⟩) (Nat.le_refl _) _).setCell (p := ⟨w.heap.size, 3, none⟩) (Nat.le_refl _) _
end Go.Proofs.YtaenpacfbheppaaGreatDoor
namespace Go.Proofs.YtaenpacfbheppaaGreatDoor
open Go.RowKit

structure DSt (w W : World) (s : ByteArray) (q : Nat) (v : Value) (L : List Tok) : Prop where
  row : TRow w.heap.size W v L
  bl : Below w.heap.size w W
  rs : Rst s q L
  no : L.length ≤ 600
theorem Rst.bl {s : ByteArray} {q : Nat} {L : List Tok} (h : Rst s q L) (hn : 0 < blN (rest s q)) : Rst s (q + blN (rest s q)) L := by
  unfold Rst at h ⊢
  rw [← scA_bl s L.length rfl hn]
  exact h
theorem stp_of {s : ByteArray} {q : Nat} (hq : q < s.size) (h : ¬ 0 < blN (rest s q)) : stp (rest s q) = if isLt s[q] then wdS (rest s q) else if isDg s[q] then nmS (rest s q) else if s[q] == 39 then txS (rest s (q + 1)) else sgS (rest s q) := by
  unfold stp
  rw [if_neg h]
  rw [rest_at s hq]
theorem DTo.cases {st : Stp} {i : Nat} {e : Ending} (h : DTo st i e) : (∃ er, st = .no er ∧ e = .returned (.tuple #[.agg #[.int .i64 0, .string ⟨#[]⟩, .int .i64 0, .int .i64 0], .int .i64 0, .string (stB er)])) ∨ (∃ k t v n, st = .tk k t v n ∧ e = .returned (.tuple #[.agg #[.int .i64 k, .string ⟨t.toArray⟩, .int .i64 v, .int .i64 i], .int .i64 (n : Nat), .string ⟨#[48, 48, 48, 48, 48]⟩])) := by
  cases st with
  | bl n => exact h.elim
  | no er => exact Or.inl ⟨er, rfl, h⟩
  | tk k t v n => exact Or.inr ⟨k, t, v, n, rfl, h⟩
theorem scan_ref (s : ByteArray) (w : World) : Calls Tryz.prog 13 #[.string s] w fun e w' => ScTo w s e w' := by
  by_cases hbig : 2000 < s.size
  · have hb' : (s.size : Int) > 2000 := by omega
    have HG : Hid (ScTo w s (.returned (.tuple #[.slice none 0 0, .string ⟨#[53, 52, 48, 48, 48]⟩])) w) := .no 4 (scF_big hbig) rfl (Below.refl _ _)
    clear hbig
    go_enter Tryz.func13, Tryz.ntmps13
    go_wp2_with fail
    go_ret2
    exact HG.out
  · have hb' : ¬ (s.size : Int) > 2000 := by omega
    have hs : s.size ≤ 10000 := by omega
    have HSF := hidk (scF_A (s := s) (by omega))
    clear hbig
    go_enter Tryz.func13, Tryz.ntmps13
    go_wp2_with fail
    go_loopw [4, 5] (fun x4 x5 wr => ∃ (q cap : Nat) (ao : Option Addr) (L : List Tok), x4 = .slice ao L.length cap ∧ x5 = .int .i64 q ∧ q ≤ s.size ∧ Hid (DSt w wr s q (.slice ao L.length cap) L)) (fun _ x5 _ => s.size - (intOf x5).toNat)
    case atStart => exact ⟨0, 0, none, [], rfl, rfl, Nat.zero_le _, ⟨Row.nil_ _ _ _ _ _, Below.refl _ _, by unfold Rst; simp only [List.length_nil]; cases scA s 0 0 <;> simp, by simp⟩⟩
    case round =>
      rename World => wr
      obtain ⟨q, cap, ao, L, rfl, rfl, hq, HD⟩ := hrel
      have hL6 := HD.out.no
      by_cases hlt : q < s.size
      · have tl : (q : Int) < (s.size : Int) := by omega
        have hbk := blank_ref s hs hlt wr
        by_cases hbl : 0 < blN (rest s q)
        · have hle := blN_le (rest s q)
          rw [rest_len] at hle
          have HD2 : Hid (DSt w wr s (q + blN (rest s q)) (.slice ao L.length cap) L) := ⟨HD.out.row, HD.out.bl, HD.out.rs.bl hbl, HD.out.no⟩
          generalize blN (rest s q) = n at *
          have tn : (n : Int) > 0 := by omega
          clear HD
          go_wp2_with fail
          refine hbk.mono ?_
          rintro e w1 ⟨rfl, rfl⟩
          clear hbk
          go_wp2_with fail
          go_roundw
          case rel => exact ⟨q + n, cap, ao, L, rfl, by go_num, by omega, HD2⟩
          case measure => simp [intOf]; omega
        · have hst := stp_of hlt hbl
          have h0 : blN (rest s q) = 0 := by omega
          rw [h0] at hbk
          have hle := letter_ref (s[q].toNat : Int)
          have hdi := digit_ref (s[q].toNat : Int)
          rw [ltI_of] at hle
          rw [dgI_of] at hdi
          have HNO : Hid (∀ er, stp (rest s q) = .no er → ∀ W, Below w.heap.size w W → ScTo w s (.returned (.tuple #[.slice none 0 0, .string (stB er)])) W) := fun er ho W hW => .no er (HSF.out.trans (HD.out.rs.no hlt ho)) rfl hW
          have HTK : Hid (∀ k t v n, stp (rest s q) = .tk k t v n → 1 ≤ n ∧ n ≤ s.size - q ∧ (L.length = 600 → ∀ W, Below w.heap.size w W → ScTo w s (.returned (.tuple #[.slice none 0 0, .string ⟨#[53, 52, 48, 48, 48]⟩])) W) ∧ (L.length < 600 → Rst s (q + n) (L ++ [⟨k, t, v, q⟩]))) := fun k t v n ho => by
            have h1 := stp_tk ho
            rw [rest_len] at h1
            obtain ⟨h6, hrs⟩ := HD.out.rs.tk hlt ho
            exact ⟨h1.1, h1.2, fun h W hW => .no 4 (HSF.out.trans (h6 h)) rfl hW, hrs⟩
          have HROW := hidk HD.out.row
          have HBL := hidk HD.out.bl
          have hwsz : w.heap.size ≤ wr.heap.size := HD.out.bl.size
          have HBX := hidk (tok_box0 wr)
          clear HD hbl h0
          have hcl : (isLt s[q] = true ∧ stp (rest s q) = wdS (rest s q)) ∨ (isLt s[q] = false ∧ isDg s[q] = true ∧ stp (rest s q) = nmS (rest s q)) ∨ (isLt s[q] = false ∧ isDg s[q] = false ∧ (s[q].toNat : Int) = 39 ∧ stp (rest s q) = txS (rest s (q + 1))) ∨ (isLt s[q] = false ∧ isDg s[q] = false ∧ ((s[q].toNat : Int) == 39) = false ∧ stp (rest s q) = sgS (rest s q)) := by
            cases c1 : isLt s[q] with
            | true => exact Or.inl ⟨rfl, by rw [hst, c1]; rfl⟩
            | false =>
              cases c2 : isDg s[q] with
              | true => exact Or.inr (Or.inl ⟨rfl, rfl, by rw [hst, c1, c2]; rfl⟩)
              | false =>
                by_cases c3 : (s[q].toNat : Int) = 39
                · have e39 : s[q] = 39 := (u8_eq (n := 39) (by omega)).1 c3
                  exact Or.inr (Or.inr (Or.inl ⟨rfl, rfl, c3, by rw [hst, c1, c2, e39]; rfl⟩))
                · have e39 : (s[q] == 39) = false := by
                    rw [beq_eq_false_iff_ne]
                    exact fun e => c3 (by rw [e]; rfl)
                  exact Or.inr (Or.inr (Or.inr ⟨rfl, rfl, by simpa using c3, by rw [hst, c1, c2, e39]; rfl⟩))
          clear hst
          go_wp2_with fail
          refine hbk.mono ?_
          rintro e w1 ⟨rfl, hw1⟩
          obtain rfl := hw1.symm
          clear hbk
          go_wp2_with fail
          refine (hle _).mono ?_
          rintro e w2 ⟨rfl, hw2⟩
          subst hw2
          clear hle
          go_wp2_with fail
          refine (hdi _).mono ?_
          rintro e w3 ⟨rfl, hw3⟩
          subst hw3
          clear hdi
          rcases hcl with ⟨c1, hst⟩ | ⟨c1, c2, hst⟩ | ⟨c1, c2, c3, hst⟩ | ⟨c1, c2, c3, hst⟩
          · rw [c1]
            have hcall := word_ref s hs hlt (wr.alloc (.cells #[.int .i64 0, .string ⟨#[]⟩, .int .i64 0, .int .i64 0] 52))
            go_wp2_with fail
            refine hcall.mono ?_
            rintro e w4 ⟨hd, hb4⟩
            have hd := hd.d
            rw [← hst] at hd
            obtain ⟨z0, z1, z2, z3, zf⟩ := HBX.out w4 hb4
            have hsz4 : wr.heap.size + 1 ≤ w4.heap.size := by have := hb4.size; simpa using this
            have HB4 : Hid (Below wr.heap.size wr w4) := ((Below.refl _ _).alloc (Nat.le_refl _) _).trans (hb4.mono (by simp))
            have HB5 : Hid (∀ a0 a1 a2 a3, Below wr.heap.size wr ((((w4.setCell ⟨wr.heap.size, 0, none⟩ a0).setCell ⟨wr.heap.size, 1, none⟩ a1).setCell ⟨wr.heap.size, 2, none⟩ a2).setCell ⟨wr.heap.size, 3, none⟩ a3)) := fun a0 a1 a2 a3 => (((HB4.out.setCell (p := ⟨wr.heap.size, 0, none⟩) (Nat.le_refl _) _).setCell (p := ⟨wr.heap.size, 1, none⟩) (Nat.le_refl _) _).setCell (p := ⟨wr.heap.size, 2, none⟩) (Nat.le_refl _) _).setCell (p := ⟨wr.heap.size, 3, none⟩) (Nat.le_refl _) _
            have HB6 : Hid (∀ W, Below wr.heap.size wr W → Below w.heap.size w W) := fun W hW => HBL.out.trans (hW.mono HBL.out.size)
            clear HBX hb4 hcall hst
            rcases hd.cases with ⟨er, ho, rfl⟩ | ⟨k, t, v, n, ho, rfl⟩
            · have HG := hidk (HNO.out er ho)
              have hse := st_ne er
              generalize stB er = sb at *
              clear HNO HTK ho hd
              rcases hse with rfl | rfl | rfl | rfl
              all_goals
                go_wp2_with fail
                go_ret2
                exact HG.out _ (HB6.out _ (HB5.out _ _ _ _))
            · obtain ⟨hn1, hn2, h6, hrs⟩ := HTK.out k t v n ho
              by_cases h600 : L.length = 600
              · have HG := hidk (h6 h600)
                have h6' : (L.length : Int) ≥ 600 := by omega
                clear HNO HTK ho hd h6 hrs h600
                generalize (⟨t.toArray⟩ : ByteArray) = tb at *
                go_wp2_with fail
                go_ret2
                exact HG.out _ (HB6.out _ (HB5.out _ _ _ _))
              · have h6' : ¬ (L.length : Int) ≥ 600 := by omega
                have HR := hidk (hrs (by omega))
                have hl10 : L.length ≤ 100000 := by omega
                have HRW : Hid (∀ W, Below wr.heap.size wr W → TRow w.heap.size W (.slice ao L.length cap) L) := fun W hW => Row.of_block HROW.out (fun c hc => hW.block c (HROW.out.lo c hc).2)
                have HB7 : Hid (∀ a0 a1 a2 a3 o, Below wr.heap.size wr (((((w4.setCell ⟨wr.heap.size, 0, none⟩ a0).setCell ⟨wr.heap.size, 1, none⟩ a1).setCell ⟨wr.heap.size, 2, none⟩ a2).setCell ⟨wr.heap.size, 3, none⟩ a3).alloc o)) := fun a0 a1 a2 a3 o => (HB5.out a0 a1 a2 a3).alloc (HB5.out a0 a1 a2 a3).size o
                clear HNO HTK ho hd h6 hrs h600
                go_wp2_with (at_builtin; refine wp_appT _ rfl _ _ rfl w.heap.size _ L rfl (HRW.out _ (HB7.out _ _ _ _ _)) w4.heap.size ⟨k, t, v, q⟩ rfl (new_atT _ _ (by simp)) hl10 (by simp; omega) ?_)
                intro g cap5 w5 hrow5 hb5
                have HD5 : Hid (DSt w w5 s (q + n) (.slice (some ⟨g, 0, none⟩) (L.length + 1) cap5) (L ++ [⟨k, t, v, q⟩])) := ⟨hrow5, (HB6.out _ (HB7.out _ _ _ _ _)).trans hb5, HR.out, by simp; omega⟩
                have hlen : (L ++ [(⟨k, t, v, q⟩ : Tok)]).length = L.length + 1 := by simp
                rw [← hlen] at HD5
                have HLEN := hidk hlen
                clear hrow5 hb5 HR HRW HB7 HB6 HB5 HB4 hlen HROW HBL
                generalize L ++ [(⟨k, t, v, q⟩ : Tok)] = L5 at *
                go_wp2_with fail
                go_roundw
                case rel => exact ⟨q + n, cap5, _, L5, by rw [HLEN.out], by go_num, by omega, HD5⟩
                case measure => simp [intOf]; omega
          · rw [c1, c2]
            have hcall := number_ref s hs hlt (wr.alloc (.cells #[.int .i64 0, .string ⟨#[]⟩, .int .i64 0, .int .i64 0] 52))
            go_wp2_with fail
            refine hcall.mono ?_
            rintro e w4 ⟨hd, hb4⟩
            have hd := hd.d
            rw [← hst] at hd
            obtain ⟨z0, z1, z2, z3, zf⟩ := HBX.out w4 hb4
            have hsz4 : wr.heap.size + 1 ≤ w4.heap.size := by have := hb4.size; simpa using this
            have HB4 : Hid (Below wr.heap.size wr w4) := ((Below.refl _ _).alloc (Nat.le_refl _) _).trans (hb4.mono (by simp))
            have HB5 : Hid (∀ a0 a1 a2 a3, Below wr.heap.size wr ((((w4.setCell ⟨wr.heap.size, 0, none⟩ a0).setCell ⟨wr.heap.size, 1, none⟩ a1).setCell ⟨wr.heap.size, 2, none⟩ a2).setCell ⟨wr.heap.size, 3, none⟩ a3)) := fun a0 a1 a2 a3 => (((HB4.out.setCell (p := ⟨wr.heap.size, 0, none⟩) (Nat.le_refl _) _).setCell (p := ⟨wr.heap.size, 1, none⟩) (Nat.le_refl _) _).setCell (p := ⟨wr.heap.size, 2, none⟩) (Nat.le_refl _) _).setCell (p := ⟨wr.heap.size, 3, none⟩) (Nat.le_refl _) _
            have HB6 : Hid (∀ W, Below wr.heap.size wr W → Below w.heap.size w W) := fun W hW => HBL.out.trans (hW.mono HBL.out.size)
            clear HBX hb4 hcall hst
            rcases hd.cases with ⟨er, ho, rfl⟩ | ⟨k, t, v, n, ho, rfl⟩
            · have HG := hidk (HNO.out er ho)
              have hse := st_ne er
              generalize stB er = sb at *
              clear HNO HTK ho hd
              rcases hse with rfl | rfl | rfl | rfl
              all_goals
                go_wp2_with fail
                go_ret2
                exact HG.out _ (HB6.out _ (HB5.out _ _ _ _))
            · obtain ⟨hn1, hn2, h6, hrs⟩ := HTK.out k t v n ho
              by_cases h600 : L.length = 600
              · have HG := hidk (h6 h600)
                have h6' : (L.length : Int) ≥ 600 := by omega
                clear HNO HTK ho hd h6 hrs h600
                generalize (⟨t.toArray⟩ : ByteArray) = tb at *
                go_wp2_with fail
                go_ret2
                exact HG.out _ (HB6.out _ (HB5.out _ _ _ _))
              · have h6' : ¬ (L.length : Int) ≥ 600 := by omega
                have HR := hidk (hrs (by omega))
                have hl10 : L.length ≤ 100000 := by omega
                have HRW : Hid (∀ W, Below wr.heap.size wr W → TRow w.heap.size W (.slice ao L.length cap) L) := fun W hW => Row.of_block HROW.out (fun c hc => hW.block c (HROW.out.lo c hc).2)
                have HB7 : Hid (∀ a0 a1 a2 a3 o, Below wr.heap.size wr (((((w4.setCell ⟨wr.heap.size, 0, none⟩ a0).setCell ⟨wr.heap.size, 1, none⟩ a1).setCell ⟨wr.heap.size, 2, none⟩ a2).setCell ⟨wr.heap.size, 3, none⟩ a3).alloc o)) := fun a0 a1 a2 a3 o => (HB5.out a0 a1 a2 a3).alloc (HB5.out a0 a1 a2 a3).size o
                clear HNO HTK ho hd h6 hrs h600
                go_wp2_with (at_builtin; refine wp_appT _ rfl _ _ rfl w.heap.size _ L rfl (HRW.out _ (HB7.out _ _ _ _ _)) w4.heap.size ⟨k, t, v, q⟩ rfl (new_atT _ _ (by simp)) hl10 (by simp; omega) ?_)
                intro g cap5 w5 hrow5 hb5
                have HD5 : Hid (DSt w w5 s (q + n) (.slice (some ⟨g, 0, none⟩) (L.length + 1) cap5) (L ++ [⟨k, t, v, q⟩])) := ⟨hrow5, (HB6.out _ (HB7.out _ _ _ _ _)).trans hb5, HR.out, by simp; omega⟩
                have hlen : (L ++ [(⟨k, t, v, q⟩ : Tok)]).length = L.length + 1 := by simp
                rw [← hlen] at HD5
                have HLEN := hidk hlen
                clear hrow5 hb5 HR HRW HB7 HB6 HB5 HB4 hlen HROW HBL
                generalize L ++ [(⟨k, t, v, q⟩ : Tok)] = L5 at *
                go_wp2_with fail
                go_roundw
                case rel => exact ⟨q + n, cap5, _, L5, by rw [HLEN.out], by go_num, by omega, HD5⟩
                case measure => simp [intOf]; omega
          · rw [c1, c2]
            have hcall := text_ref s hs hlt (wr.alloc (.cells #[.int .i64 0, .string ⟨#[]⟩, .int .i64 0, .int .i64 0] 52))
            go_wp2_with fail
            refine hcall.mono ?_
            rintro e w4 ⟨hd, hb4⟩
            have hd := hd
            rw [← hst] at hd
            obtain ⟨z0, z1, z2, z3, zf⟩ := HBX.out w4 hb4
            have hsz4 : wr.heap.size + 1 ≤ w4.heap.size := by have := hb4.size; simpa using this
            have HB4 : Hid (Below wr.heap.size wr w4) := ((Below.refl _ _).alloc (Nat.le_refl _) _).trans (hb4.mono (by simp))
            have HB5 : Hid (∀ a0 a1 a2 a3, Below wr.heap.size wr ((((w4.setCell ⟨wr.heap.size, 0, none⟩ a0).setCell ⟨wr.heap.size, 1, none⟩ a1).setCell ⟨wr.heap.size, 2, none⟩ a2).setCell ⟨wr.heap.size, 3, none⟩ a3)) := fun a0 a1 a2 a3 => (((HB4.out.setCell (p := ⟨wr.heap.size, 0, none⟩) (Nat.le_refl _) _).setCell (p := ⟨wr.heap.size, 1, none⟩) (Nat.le_refl _) _).setCell (p := ⟨wr.heap.size, 2, none⟩) (Nat.le_refl _) _).setCell (p := ⟨wr.heap.size, 3, none⟩) (Nat.le_refl _) _
            have HB6 : Hid (∀ W, Below wr.heap.size wr W → Below w.heap.size w W) := fun W hW => HBL.out.trans (hW.mono HBL.out.size)
            clear HBX hb4 hcall hst
            rcases hd.cases with ⟨er, ho, rfl⟩ | ⟨k, t, v, n, ho, rfl⟩
            · have HG := hidk (HNO.out er ho)
              have hse := st_ne er
              generalize stB er = sb at *
              clear HNO HTK ho hd
              rcases hse with rfl | rfl | rfl | rfl
              all_goals
                go_wp2_with fail
                go_ret2
                exact HG.out _ (HB6.out _ (HB5.out _ _ _ _))
            · obtain ⟨hn1, hn2, h6, hrs⟩ := HTK.out k t v n ho
              by_cases h600 : L.length = 600
              · have HG := hidk (h6 h600)
                have h6' : (L.length : Int) ≥ 600 := by omega
                clear HNO HTK ho hd h6 hrs h600
                generalize (⟨t.toArray⟩ : ByteArray) = tb at *
                go_wp2_with fail
                go_ret2
                exact HG.out _ (HB6.out _ (HB5.out _ _ _ _))
              · have h6' : ¬ (L.length : Int) ≥ 600 := by omega
                have HR := hidk (hrs (by omega))
                have hl10 : L.length ≤ 100000 := by omega
                have HRW : Hid (∀ W, Below wr.heap.size wr W → TRow w.heap.size W (.slice ao L.length cap) L) := fun W hW => Row.of_block HROW.out (fun c hc => hW.block c (HROW.out.lo c hc).2)
                have HB7 : Hid (∀ a0 a1 a2 a3 o, Below wr.heap.size wr (((((w4.setCell ⟨wr.heap.size, 0, none⟩ a0).setCell ⟨wr.heap.size, 1, none⟩ a1).setCell ⟨wr.heap.size, 2, none⟩ a2).setCell ⟨wr.heap.size, 3, none⟩ a3).alloc o)) := fun a0 a1 a2 a3 o => (HB5.out a0 a1 a2 a3).alloc (HB5.out a0 a1 a2 a3).size o
                clear HNO HTK ho hd h6 hrs h600
                go_wp2_with (at_builtin; refine wp_appT _ rfl _ _ rfl w.heap.size _ L rfl (HRW.out _ (HB7.out _ _ _ _ _)) w4.heap.size ⟨k, t, v, q⟩ rfl (new_atT _ _ (by simp)) hl10 (by simp; omega) ?_)
                intro g cap5 w5 hrow5 hb5
                have HD5 : Hid (DSt w w5 s (q + n) (.slice (some ⟨g, 0, none⟩) (L.length + 1) cap5) (L ++ [⟨k, t, v, q⟩])) := ⟨hrow5, (HB6.out _ (HB7.out _ _ _ _ _)).trans hb5, HR.out, by simp; omega⟩
                have hlen : (L ++ [(⟨k, t, v, q⟩ : Tok)]).length = L.length + 1 := by simp
                rw [← hlen] at HD5
                have HLEN := hidk hlen
                clear hrow5 hb5 HR HRW HB7 HB6 HB5 HB4 hlen HROW HBL
                generalize L ++ [(⟨k, t, v, q⟩ : Tok)] = L5 at *
                go_wp2_with fail
                go_roundw
                case rel => exact ⟨q + n, cap5, _, L5, by rw [HLEN.out], by go_num, by omega, HD5⟩
                case measure => simp [intOf]; omega
          · rw [c1, c2]
            have hcall := sign_ref s hs hlt (wr.alloc (.cells #[.int .i64 0, .string ⟨#[]⟩, .int .i64 0, .int .i64 0] 52))
            go_wp2_with fail
            refine hcall.mono ?_
            rintro e w4 ⟨hd, hb4⟩
            have hd := hd
            rw [← hst] at hd
            obtain ⟨z0, z1, z2, z3, zf⟩ := HBX.out w4 hb4
            have hsz4 : wr.heap.size + 1 ≤ w4.heap.size := by have := hb4.size; simpa using this
            have HB4 : Hid (Below wr.heap.size wr w4) := ((Below.refl _ _).alloc (Nat.le_refl _) _).trans (hb4.mono (by simp))
            have HB5 : Hid (∀ a0 a1 a2 a3, Below wr.heap.size wr ((((w4.setCell ⟨wr.heap.size, 0, none⟩ a0).setCell ⟨wr.heap.size, 1, none⟩ a1).setCell ⟨wr.heap.size, 2, none⟩ a2).setCell ⟨wr.heap.size, 3, none⟩ a3)) := fun a0 a1 a2 a3 => (((HB4.out.setCell (p := ⟨wr.heap.size, 0, none⟩) (Nat.le_refl _) _).setCell (p := ⟨wr.heap.size, 1, none⟩) (Nat.le_refl _) _).setCell (p := ⟨wr.heap.size, 2, none⟩) (Nat.le_refl _) _).setCell (p := ⟨wr.heap.size, 3, none⟩) (Nat.le_refl _) _
            have HB6 : Hid (∀ W, Below wr.heap.size wr W → Below w.heap.size w W) := fun W hW => HBL.out.trans (hW.mono HBL.out.size)
            clear HBX hb4 hcall hst
            rcases hd.cases with ⟨er, ho, rfl⟩ | ⟨k, t, v, n, ho, rfl⟩
            · have HG := hidk (HNO.out er ho)
              have hse := st_ne er
              generalize stB er = sb at *
              clear HNO HTK ho hd
              rcases hse with rfl | rfl | rfl | rfl
              all_goals
                go_wp2_with fail
                go_ret2
                exact HG.out _ (HB6.out _ (HB5.out _ _ _ _))
            · obtain ⟨hn1, hn2, h6, hrs⟩ := HTK.out k t v n ho
              by_cases h600 : L.length = 600
              · have HG := hidk (h6 h600)
                have h6' : (L.length : Int) ≥ 600 := by omega
                clear HNO HTK ho hd h6 hrs h600
                generalize (⟨t.toArray⟩ : ByteArray) = tb at *
                go_wp2_with fail
                go_ret2
                exact HG.out _ (HB6.out _ (HB5.out _ _ _ _))
              · have h6' : ¬ (L.length : Int) ≥ 600 := by omega
                have HR := hidk (hrs (by omega))
                have hl10 : L.length ≤ 100000 := by omega
                have HRW : Hid (∀ W, Below wr.heap.size wr W → TRow w.heap.size W (.slice ao L.length cap) L) := fun W hW => Row.of_block HROW.out (fun c hc => hW.block c (HROW.out.lo c hc).2)
                have HB7 : Hid (∀ a0 a1 a2 a3 o, Below wr.heap.size wr (((((w4.setCell ⟨wr.heap.size, 0, none⟩ a0).setCell ⟨wr.heap.size, 1, none⟩ a1).setCell ⟨wr.heap.size, 2, none⟩ a2).setCell ⟨wr.heap.size, 3, none⟩ a3).alloc o)) := fun a0 a1 a2 a3 o => (HB5.out a0 a1 a2 a3).alloc (HB5.out a0 a1 a2 a3).size o
                clear HNO HTK ho hd h6 hrs h600
                go_wp2_with (at_builtin; refine wp_appT _ rfl _ _ rfl w.heap.size _ L rfl (HRW.out _ (HB7.out _ _ _ _ _)) w4.heap.size ⟨k, t, v, q⟩ rfl (new_atT _ _ (by simp)) hl10 (by simp; omega) ?_)
                intro g cap5 w5 hrow5 hb5
                have HD5 : Hid (DSt w w5 s (q + n) (.slice (some ⟨g, 0, none⟩) (L.length + 1) cap5) (L ++ [⟨k, t, v, q⟩])) := ⟨hrow5, (HB6.out _ (HB7.out _ _ _ _ _)).trans hb5, HR.out, by simp; omega⟩
                have hlen : (L ++ [(⟨k, t, v, q⟩ : Tok)]).length = L.length + 1 := by simp
                rw [← hlen] at HD5
                have HLEN := hidk hlen
                clear hrow5 hb5 HR HRW HB7 HB6 HB5 HB4 hlen HROW HBL
                generalize L ++ [(⟨k, t, v, q⟩ : Tok)] = L5 at *
                go_wp2_with fail
                go_roundw
                case rel => exact ⟨q + n, cap5, _, L5, by rw [HLEN.out], by go_num, by omega, HD5⟩
                case measure => simp [intOf]; omega
      · have tl : ¬ (q : Int) < (s.size : Int) := by omega
        have HG : Hid (ScTo w s (.returned (.tuple #[.slice ao L.length cap, .string ⟨#[48, 48, 48, 48, 48]⟩])) wr) := .ok L _ (HSF.out.trans (HD.out.rs.done (by omega))) rfl HD.out.row HD.out.bl
        clear HD HSF
        go_wp2_with fail
        go_ret2
        exact HG.out
end Go.Proofs.YtaenpacfbheppaaGreatDoor
namespace Go.Proofs.YtaenpacfbheppaaGreatDoor
open Go.RowKit

theorem box4 (w : World) (a b c d : Value) (t : TypeId) (W : World) (hW : Below (w.alloc (.cells #[a, b, c, d] t)).heap.size (w.alloc (.cells #[a, b, c, d] t)) W) : W.cell? ⟨w.heap.size, 0, none⟩ = some a ∧ W.cell? ⟨w.heap.size, 1, none⟩ = some b ∧ W.cell? ⟨w.heap.size, 2, none⟩ = some c ∧ W.cell? ⟨w.heap.size, 3, none⟩ = some d := by
  have e : W.heap[w.heap.size]? = some (.cells #[a, b, c, d] t) := (hW.block w.heap.size (by simp)).trans (heap_alloc_new w _)
  refine ⟨by rw [cell_of_row W _ 0 _ _ _ e]; rfl, by rw [cell_of_row W _ 1 _ _ _ e]; rfl, by rw [cell_of_row W _ 2 _ _ _ e]; rfl, by rw [cell_of_row W _ 3 _ _ _ e]; rfl⟩
end Go.Proofs.YtaenpacfbheppaaGreatDoor
namespace Go.Proofs.YtaenpacfbheppaaGreatDoor
open Go.RowKit

theorem good_kinds {k : Int} {s : List UInt8} {v : Int} (h : Good k s v) : ((k = 0 ∨ k = 3) ∧ s.length ≤ 32) ∨ (k = 1 ∧ 0 ≤ v ∧ v ≤ 9223372036854775807) ∨ (k = 2 ∧ s.length ≤ 400) := by
  obtain ⟨r, n, h⟩ := h
  cases r with
  | nil => simp [stp, blN] at h
  | cons c q =>
    unfold stp at h
    split at h
    · cases h
    · simp only at h
      split at h
      · unfold wdS at h
        split at h
        · cases h
        · rename_i hn
          injection h with e1 e2 e3 e4
          subst e1 e2
          exact Or.inl ⟨Or.inl rfl, by rw [List.length_map]; omega⟩
      · split at h
        · unfold nmS at h
          split at h
          · cases h
          · rename_i hv
            split at h
            · cases h
            · injection h with e1 e2 e3 e4
              exact Or.inr (Or.inl ⟨e1.symm, by omega, by omega⟩)
        · split at h
          · unfold txS at h
            split at h
            · cases h
            · split at h
              · split at h
                · cases h
                · rename_i hl
                  injection h with e1 e2 e3 e4
                  subst e2
                  exact Or.inr (Or.inr ⟨e1.symm, by omega⟩)
              · cases h
          · unfold sgS at h
            split at h
            · cases h
            · rename_i g hg
              injection h with e1 e2 e3 e4
              subst e2
              refine Or.inl ⟨Or.inr e1.symm, ?_⟩
              have hm := List.mem_of_find?_eq_some hg
              have : signs.all (fun g => decide (g.length ≤ 32)) = true := by decide
              simpa using List.all_eq_true.1 this g hm
end Go.Proofs.YtaenpacfbheppaaGreatDoor
namespace Go.Proofs.YtaenpacfbheppaaGreatDoor
open Go.RowKit

def docL : List UInt8 := [32, 97, 108, 108, 32, 97, 110, 100, 32, 97, 110, 121, 32, 97, 115, 32, 97, 115, 99, 32, 98, 101, 116, 119, 101, 101, 110, 32, 98, 121, 32, 99, 97, 115, 101, 32, 99, 97, 115, 116, 32, 99, 104, 101, 99, 107, 32, 99, 108, 111, 115, 101, 32, 99, 111, 97, 108, 101, 115, 99, 101, 32, 99, 111, 109, 109, 105, 116, 32, 99, 114, 101, 97, 116, 101, 32, 99, 114, 111, 115, 115, 32, 99, 117, 114, 114, 101, 110, 116, 32, 99, 117, 114, 115, 111, 114, 32, 100, 101, 99, 108, 97, 114, 101, 32, 100, 101, 108, 101, 116, 101, 32, 100, 101, 115, 99, 32, 100, 105, 115, 116, 105, 110, 99, 116, 32, 100, 114, 111, 112, 32, 101, 108, 115, 101, 32, 101, 110, 100, 32, 101, 120, 99, 101, 112, 116, 32, 101, 120, 105, 115, 116, 115, 32, 102, 97, 108, 115, 101, 32, 102, 101, 116, 99, 104, 32, 102, 105, 114, 115, 116, 32, 102, 111, 114, 32, 102, 111, 114, 101, 105, 103, 110, 32, 102, 114, 111, 109, 32, 102, 117, 108, 108, 32, 103, 114, 111, 117, 112, 32, 104, 97, 118, 105, 110, 103, 32, 105, 110, 32, 105, 110, 100, 101, 120, 32, 105, 110, 110, 101, 114, 32, 105, 110, 115, 101, 114, 116, 32, 105, 110, 116, 101, 114, 115, 101, 99, 116, 32, 105, 110, 116, 111, 32, 105, 115, 32, 105, 115, 111, 108, 97, 116, 105, 111, 110, 32, 106, 111, 105, 110, 32, 107, 101, 121, 32, 108, 97, 115, 116, 32, 108, 101, 102, 116, 32, 108, 101, 118, 101, 108, 32, 108, 105, 107, 101, 32, 110, 101, 120, 116, 32, 110, 111, 116, 32, 110, 117, 108, 108, 32, 110, 117, 108, 108, 105, 102, 32, 111, 102, 32, 111, 110, 32, 111, 110, 108, 121, 32, 111, 112, 101, 110, 32, 111, 114, 32, 111, 114, 100, 101, 114, 32, 111, 117, 116, 101, 114, 32, 112, 114, 105, 109, 97, 114, 121, 32, 112, 114, 105, 111, 114, 32, 114, 101, 97, 100, 32, 114, 101, 102, 101, 114, 101, 110, 99, 101, 115, 32, 114, 101, 108, 97, 116, 105, 118, 101, 32, 114, 101, 108, 101, 97, 115, 101, 32, 114, 105, 103, 104, 116, 32, 114, 111, 108, 108, 98, 97, 99, 107, 32, 115, 97, 118, 101, 112, 111, 105, 110, 116, 32, 115, 99, 114, 111, 108, 108, 32, 115, 101, 108, 101, 99, 116, 32, 115, 101, 116, 32, 115, 111, 109, 101, 32, 116, 97, 98, 108, 101, 32, 116, 104, 101, 110, 32, 116, 111, 32, 116, 114, 97, 110, 115, 97, 99, 116, 105, 111, 110, 32, 116, 114, 117, 101, 32, 117, 110, 105, 111, 110, 32, 117, 110, 105, 113, 117, 101, 32, 117, 110, 107, 110, 111, 119, 110, 32, 117, 112, 100, 97, 116, 101, 32, 118, 97, 108, 117, 101, 115, 32, 119, 104, 101, 110, 32, 119, 104, 101, 114, 101, 32, 97, 98, 115, 111, 108, 117, 116, 101, 32, 99, 111, 117, 110, 116, 32, 115, 117, 109, 32, 109, 105, 110, 32, 109, 97, 120, 32, 98, 105, 103, 105, 110, 116, 32, 98, 111, 111, 108, 101, 97, 110, 32, 99, 104, 97, 114, 32, 99, 104, 97, 114, 97, 99, 116, 101, 114, 32, 105, 110, 116, 32, 105, 110, 116, 101, 103, 101, 114, 32, 115, 109, 97, 108, 108, 105, 110, 116, 32, 118, 97, 114, 99, 104, 97, 114, 32, 117, 110, 99, 111, 109, 109, 105, 116, 116, 101, 100, 32, 99, 111, 109, 109, 105, 116, 116, 101, 100, 32, 114, 101, 112, 101, 97, 116, 97, 98, 108, 101, 32, 115, 101, 114, 105, 97, 108, 105, 122, 97, 98, 108, 101, 32]
theorem docL_len : docL.length = 643 := by decide +kernel
theorem docL_flat : docL = 32 :: resL.flatMap (· ++ [32]) := by decide +kernel
theorem resL_ok : (resL.all fun x => x.all (· != 32) && x != []) = true := by decide +kernel
theorem flat_in : ∀ (R : List (List UInt8)) (x : List UInt8), x ∈ R → ∃ p q, 32 :: R.flatMap (· ++ [32]) = p ++ ((32 :: x ++ [32]) ++ q)
  | y :: R, x, h => by
    by_cases e : x = y
    · subst e
      exact ⟨[], R.flatMap (· ++ [32]), by simp⟩
    · obtain ⟨p, q, hp⟩ := flat_in R x (by rcases List.mem_cons.1 h with h | h; exact absurd h e; exact h)
      refine ⟨32 :: y ++ p, q, ?_⟩
      rw [List.flatMap_cons, List.append_assoc, List.append_assoc, ← hp]
      simp
theorem tw_word : ∀ (x r : List UInt8), (∀ c ∈ x, (c != 32) = true) → (x ++ 32 :: r).takeWhile (· != 32) = x
  | [], r, _ => by simp
  | c :: x, r, h => by
    rw [List.cons_append, List.takeWhile_cons, if_pos (h c (List.mem_cons_self ..)), tw_word x r (fun d hd => h d (List.mem_cons_of_mem _ hd))]
def chkL : List UInt8 → Bool
  | [] => true
  | c :: r => (c != 32 || r.takeWhile (· != 32) == [] || resL.contains (r.takeWhile (· != 32))) && chkL r
theorem chkL_doc : chkL docL = true := by decide +kernel
theorem chkL_at : ∀ (p x q : List UInt8), chkL (p ++ ((32 :: x ++ [32]) ++ q)) = true → (∀ c ∈ x, (c != 32) = true) → x ≠ [] → resL.contains x = true
  | [], x, q, h, hx, hn => by
    simp only [List.nil_append, List.cons_append, List.append_assoc, List.singleton_append, chkL, Bool.and_eq_true] at h
    rw [tw_word x _ hx] at h
    simpa [hn] using h.1
  | c :: p, x, q, h, hx, hn => by
    rw [List.cons_append] at h
    simp only [chkL, Bool.and_eq_true] at h
    exact chkL_at p x q h.2 hx hn
theorem doc_found {x : List UInt8} {i : Nat} (h : (docL.drop i).take (x.length + 2) = 32 :: x ++ [32]) (hx : ∀ c ∈ x, (c != 32) = true) (hn : x ≠ []) : resL.contains x = true := by
  refine chkL_at (docL.take i) x (docL.drop (i + (x.length + 2))) ?_ hx hn
  rw [← h, ← List.drop_drop, List.take_append_drop, List.take_append_drop]
  exact chkL_doc
theorem doc_none {x : List UInt8} (h : ∀ i, i + (x.length + 2) ≤ docL.length → (docL.drop i).take (x.length + 2) ≠ 32 :: x ++ [32]) : resL.contains x = false := by
  cases hc : resL.contains x with
  | false => rfl
  | true =>
    exfalso
    obtain ⟨p, q, hp⟩ := flat_in resL x (by simpa using hc)
    rw [← docL_flat] at hp
    refine h p.length ?_ ?_
    · rw [hp]; simp
    · rw [hp, List.drop_left, List.take_append_of_le_length (by simp), List.take_of_length_le (by simp)]
theorem res_blank {x : List UInt8} {c : UInt8} (h : c ∈ x) (hc : c = 32) : resL.contains x = false := by
  cases hr : resL.contains x with
  | false => rfl
  | true =>
    have := List.all_eq_true.1 resL_ok x (by simpa using hr)
    simp only [Bool.and_eq_true, List.all_eq_true] at this
    have := this.1 c h
    subst hc
    cases this
theorem res_nil : resL.contains ([] : List UInt8) = false := by decide +kernel
def docB : ByteArray := ⟨#[32, 97, 108, 108, 32, 97, 110, 100, 32, 97, 110, 121, 32, 97, 115, 32, 97, 115, 99, 32, 98, 101, 116, 119, 101, 101, 110, 32, 98, 121, 32, 99, 97, 115, 101, 32, 99, 97, 115, 116, 32, 99, 104, 101, 99, 107, 32, 99, 108, 111, 115, 101, 32, 99, 111, 97, 108, 101, 115, 99, 101, 32, 99, 111, 109, 109, 105, 116, 32, 99, 114, 101, 97, 116, 101, 32, 99, 114, 111, 115, 115, 32, 99, 117, 114, 114, 101, 110, 116, 32, 99, 117, 114, 115, 111, 114, 32, 100, 101, 99, 108, 97, 114, 101, 32, 100, 101, 108, 101, 116, 101, 32, 100, 101, 115, 99, 32, 100, 105, 115, 116, 105, 110, 99, 116, 32, 100, 114, 111, 112, 32, 101, 108, 115, 101, 32, 101, 110, 100, 32, 101, 120, 99, 101, 112, 116, 32, 101, 120, 105, 115, 116, 115, 32, 102, 97, 108, 115, 101, 32, 102, 101, 116, 99, 104, 32, 102, 105, 114, 115, 116, 32, 102, 111, 114, 32, 102, 111, 114, 101, 105, 103, 110, 32, 102, 114, 111, 109, 32, 102, 117, 108, 108, 32, 103, 114, 111, 117, 112, 32, 104, 97, 118, 105, 110, 103, 32, 105, 110, 32, 105, 110, 100, 101, 120, 32, 105, 110, 110, 101, 114, 32, 105, 110, 115, 101, 114, 116, 32, 105, 110, 116, 101, 114, 115, 101, 99, 116, 32, 105, 110, 116, 111, 32, 105, 115, 32, 105, 115, 111, 108, 97, 116, 105, 111, 110, 32, 106, 111, 105, 110, 32, 107, 101, 121, 32, 108, 97, 115, 116, 32, 108, 101, 102, 116, 32, 108, 101, 118, 101, 108, 32, 108, 105, 107, 101, 32, 110, 101, 120, 116, 32, 110, 111, 116, 32, 110, 117, 108, 108, 32, 110, 117, 108, 108, 105, 102, 32, 111, 102, 32, 111, 110, 32, 111, 110, 108, 121, 32, 111, 112, 101, 110, 32, 111, 114, 32, 111, 114, 100, 101, 114, 32, 111, 117, 116, 101, 114, 32, 112, 114, 105, 109, 97, 114, 121, 32, 112, 114, 105, 111, 114, 32, 114, 101, 97, 100, 32, 114, 101, 102, 101, 114, 101, 110, 99, 101, 115, 32, 114, 101, 108, 97, 116, 105, 118, 101, 32, 114, 101, 108, 101, 97, 115, 101, 32, 114, 105, 103, 104, 116, 32, 114, 111, 108, 108, 98, 97, 99, 107, 32, 115, 97, 118, 101, 112, 111, 105, 110, 116, 32, 115, 99, 114, 111, 108, 108, 32, 115, 101, 108, 101, 99, 116, 32, 115, 101, 116, 32, 115, 111, 109, 101, 32, 116, 97, 98, 108, 101, 32, 116, 104, 101, 110, 32, 116, 111, 32, 116, 114, 97, 110, 115, 97, 99, 116, 105, 111, 110, 32, 116, 114, 117, 101, 32, 117, 110, 105, 111, 110, 32, 117, 110, 105, 113, 117, 101, 32, 117, 110, 107, 110, 111, 119, 110, 32, 117, 112, 100, 97, 116, 101, 32, 118, 97, 108, 117, 101, 115, 32, 119, 104, 101, 110, 32, 119, 104, 101, 114, 101, 32, 97, 98, 115, 111, 108, 117, 116, 101, 32, 99, 111, 117, 110, 116, 32, 115, 117, 109, 32, 109, 105, 110, 32, 109, 97, 120, 32, 98, 105, 103, 105, 110, 116, 32, 98, 111, 111, 108, 101, 97, 110, 32, 99, 104, 97, 114, 32, 99, 104, 97, 114, 97, 99, 116, 101, 114, 32, 105, 110, 116, 32, 105, 110, 116, 101, 103, 101, 114, 32, 115, 109, 97, 108, 108, 105, 110, 116, 32, 118, 97, 114, 99, 104, 97, 114, 32, 117, 110, 99, 111, 109, 109, 105, 116, 116, 101, 100, 32, 99, 111, 109, 109, 105, 116, 116, 101, 100, 32, 114, 101, 112, 101, 97, 116, 97, 98, 108, 101, 32, 115, 101, 114, 105, 97, 108, 105, 122, 97, 98, 108, 101, 32]⟩
theorem docB_list : docB.data.toList = docL := by rfl
end Go.Proofs.YtaenpacfbheppaaGreatDoor
namespace Go.Proofs.YtaenpacfbheppaaGreatDoor
open Go.RowKit

theorem docB_size : docB.size = 643 := by
  have : docB.data.toList.length = 643 := by rw [docB_list, docL_len]
  simpa using this
theorem ext_doc (i n : Nat) : (docB.extract i (i + n)).data.toList = (docL.drop i).take n := by
  rw [ByteArray.data_extract, Array.toList_extract, docB_list]
  simp [List.extract]
theorem mid_list (word : ByteArray) : (⟨#[32]⟩ ++ word ++ ⟨#[32]⟩ : ByteArray).data.toList = 32 :: word.data.toList ++ [32] := by simp
theorem mid_size (word : ByteArray) : (⟨#[32]⟩ ++ word ++ ⟨#[32]⟩ : ByteArray).size = word.size + 2 := by
  have h := congrArg List.length (mid_list word)
  simp only [List.length_append, List.length_cons, List.length_nil, Array.length_toList] at h
  show _ = word.data.size + 2
  rw [← ByteArray.size_data]
  omega
theorem reserved_ref (word : ByteArray) (hs : word.size ≤ 140737488355328) (w : World) : Calls Tryz.prog 108 #[.string word] w fun e w' => e = .returned (.bool (resL.contains word.data.toList)) ∧ w' = w := by
  obtain ⟨R, hR⟩ : ∃ R, R = resL.contains word.data.toList := ⟨_, rfl⟩
  rw [← hR]
  have HR := hidk hR
  clear hR
  go_enter Tryz.func108, Tryz.ntmps108
  go_wp2_with fail
  generalize hl : ByteArray.mk (List.toArray (List.append _ _)) = D
  have hD : D = docB := by rw [← hl]; rfl
  clear hl
  have hDs : D.size = 643 := by rw [hD]; exact docB_size
  have HD := hidk hD
  clear hD
  go_loopw [4] (fun x wr => ∃ i : Nat, x = .int .i64 i ∧ i ≤ word.size ∧ Hid (∀ j, j < i → ∀ h : j < word.size, ¬ (word[j].toNat : Int) = 32) ∧ wr = w) (fun x _ => word.size - (intOf x).toNat)
  case atStart => exact ⟨0, rfl, Nat.zero_le _, fun j hj => by omega, rfl⟩
  case round =>
    obtain ⟨i, rfl, hi, HA, rfl⟩ := hrel
    by_cases hlt : i < word.size
    · have tl : (i : Int) < (word.size : Int) := by omega
      by_cases h32 : (word[i].toNat : Int) = 32
      · have hRf : R = false := by
          rw [HR.out]
          refine res_blank (c := word[i]) ?_ ((u8_eq (n := 32) (by omega)).1 h32)
          exact Array.getElem_mem_toList (by simpa using hlt)
        subst hRf
        clear HR HA HD
        go_wp2_with fail
        go_ret
        exact ⟨rfl, rfl⟩
      · have h32' : ((word[i].toNat : Int) == 32) = false := by simpa using h32
        have HN : Hid (∀ j, j < i + 1 → ∀ h : j < word.size, ¬ (word[j].toNat : Int) = 32) := fun j hj h => by
          by_cases e : j = i
          · subst e; exact h32
          · exact HA.out j (by omega) h
        clear HA HR HD
        go_wp2_with fail
        go_roundw
        case rel => exact ⟨i + 1, by go_num, by omega, HN, by first | rfl | trivial⟩
        case measure => simp [intOf]; omega
    · have tl : ¬ (i : Int) < (word.size : Int) := by omega
      obtain rfl : i = word.size := by omega
      have HNB : Hid (∀ c ∈ word.data.toList, (c != 32) = true) := fun c hc => by
        obtain ⟨j, hj, rfl⟩ := List.mem_iff_getElem.1 hc
        have hj2 : j < word.size := by simpa using hj
        have := HA.out j hj2 hj2
        rw [bne_iff_ne]
        intro e
        refine this ?_
        have e2 : word[j] = 32 := e
        rw [e2]; rfl
      have c1 : ¬ 9223372036854775807 < 1 + word.size := by omega
      have c2 : ¬ 9223372036854775807 < 1 + word.size + 1 := by omega
      clear HA
      go_wp2_with fail
      have hml := mid_list word
      have hms := mid_size word
      generalize (⟨#[32]⟩ ++ word ++ ⟨#[32]⟩ : ByteArray) = wB at *
      rename World => w0
      by_cases he : word.data.toList = []
      · have q1 : (word.toList == (⟨#[]⟩ : ByteArray).toList) = true ∧ (word.toList == []) = true := by
          rw [Lib.toList_data, Lib.toList_data, he]; decide
        obtain ⟨q1, q2⟩ := q1
        have hRf : R = false := by rw [HR.out, he]; exact res_nil
        subst hRf
        have hw0 : word.size = 0 := by simpa using congrArg List.length he
        have hw2 : (wB.size : Int) = 2 := by omega
        have tle : (0 : Int) + (wB.size : Int) ≤ (D.size : Int) := by omega
        clear HR HD HNB hml
        go_loopw [6] (fun x wr => x = .int .i64 0 ∧ wr = w0) (fun x _ => 0)
        case atStart => exact ⟨rfl, rfl⟩
        case round =>
          obtain ⟨rfl, rfl⟩ := hrel
          go_wp2_with fail
          go_ret
          exact ⟨rfl, rfl⟩
      · have q1 : (word.toList == (⟨#[]⟩ : ByteArray).toList) = false ∧ (word.toList == []) = false := by
          rw [Lib.toList_data, Lib.toList_data]
          constructor <;> simpa using he
        obtain ⟨q1, q2⟩ := q1
        have HY : Hid (∀ i, i + wB.size ≤ 643 → ((D.extract i (i + wB.size)).toList == wB.toList) = true → R = true) := fun i hi h => by
          rw [HR.out]
          rw [Lib.toList_data, Lib.toList_data, HD.out, ext_doc, hml, hms] at h
          have h' := eq_of_beq h
          refine doc_found (i := i) ?_ HNB.out he
          rw [show word.data.toList.length = word.size by simp]
          exact h'
        have HZ : Hid ((∀ i, i + wB.size ≤ 643 → ((D.extract i (i + wB.size)).toList == wB.toList) = false) → R = false) := fun h => by
          rw [HR.out]
          refine doc_none fun i hi => ?_
          rw [docL_len, show word.data.toList.length = word.size by simp] at hi
          have := h i (by omega)
          rw [Lib.toList_data, Lib.toList_data, HD.out, ext_doc, hml, hms] at this
          rw [show word.data.toList.length = word.size by simp]
          simpa using this
        have hwb : wB.size ≤ 140737488355330 ∧ 2 ≤ wB.size := by omega
        obtain ⟨hwb, hwb2⟩ := hwb
        clear HD HNB hml HR hms
        go_loopw [6] (fun x wr => ∃ i : Nat, x = .int .i64 i ∧ i ≤ 644 ∧ Hid (∀ j, j < i → j + wB.size ≤ 643 → ((D.extract j (j + wB.size)).toList == wB.toList) = false) ∧ wr = w0) (fun x _ => 700 - (intOf x).toNat)
        case atStart => exact ⟨0, rfl, by omega, fun j hj => by omega, rfl⟩
        case round =>
          obtain ⟨i, rfl, hi, HA, rfl⟩ := hrel
          by_cases hle : i + wB.size ≤ 643
          · have tle : (i : Int) + (wB.size : Int) ≤ (D.size : Int) := by omega
            have tle2 : (i : Int) ≤ (i : Int) + (wB.size : Int) := by omega
            cases hq : (D.extract i (i + wB.size)).toList == wB.toList with
            | true =>
              have hRt := HY.out i hle hq
              subst hRt
              clear HY HZ HA
              go_wp2_with fail
              go_ret
              exact ⟨rfl, rfl⟩
            | false =>
              have HN : Hid (∀ j, j < i + 1 → j + wB.size ≤ 643 → ((D.extract j (j + wB.size)).toList == wB.toList) = false) := fun j hj h => by
                by_cases e : j = i
                · subst e; exact hq
                · exact HA.out j (by omega) h
              clear HA HY HZ
              go_wp2_with fail
              exact ⟨⟨i + 1, by go_num, by omega, HN, by first | rfl | trivial⟩, by simp [intOf]; omega⟩
          · have tle : ¬ (i : Int) + (wB.size : Int) ≤ (D.size : Int) := by omega
            have hRf := HZ.out (fun j hj => HA.out j (by omega) hj)
            subst hRf
            clear HA HY HZ
            go_wp2_with fail
            go_ret
            exact ⟨rfl, rfl⟩
end Go.Proofs.YtaenpacfbheppaaGreatDoor
namespace Go.Proofs.YtaenpacfbheppaaGreatDoor
open Go.RowKit Go.Lib

theorem cells_of_strs {H : Type} {enc : TypeId × Value → H} {P : Program} {w : World} {base : Nat} {sp : Nat → Bool} {held : Bool} {fuel : Nat} {t e : TypeId} {n : Nat} {cs : List Value} {zs : List (List UInt8)} {p : List MemPlace}
    (ht : P.underlying t = some (.array n e)) (he : P.underlying e = some .string) (hce : P.cellsOf e = 1) (hct : P.cellsOf t = n)
    (h : DataW.trod enc P w base sp held fuel t cs = some (.agg (zs.map fun z => .lit (.string z)), p)) : cs = zs.map fun z => Value.string ⟨z.toArray⟩ := by
  cases fuel with
  | zero => simp [DataW.trod] at h
  | succ fuel =>
    simp only [DataW.trod, ht, hce, hct, Nat.mul_one] at h
    split at h
    · rename_i hl
      obtain ⟨xs, hm, hx⟩ := Option.map_eq_some_iff.1 h
      have hxs : xs.map (·.1) = zs.map fun z => (DataW.lit (.string z) : DataW H) := by
        have := congrArg Prod.fst hx
        simpa using this
      have hxl : xs.length = n := by simpa using mapM_length hm
      have hzl : zs.length = n := by
        have := congrArg List.length hxs
        simp at this
        omega
      apply List.ext_getElem?
      intro i
      by_cases hi : i < n
      · obtain ⟨b, hb, hf⟩ := mapM_at hm i i (by simp [hi])
        obtain ⟨z, hc, rfl, _⟩ := DataW.trod_string he hf
        have h1 : cs[i]? = some (.string z) := by
          have := congrArg (·[0]?) hc
          simpa [List.getElem?_take, List.getElem?_drop] using this
        have h2 : (xs.map (·.1))[i]? = some (DataW.lit (.string z.data.toList) : DataW H) := by simp [hb]
        rw [hxs] at h2
        simp only [List.getElem?_map, Option.map_eq_some_iff, DataW.lit.injEq, Lit.string.injEq] at h2
        obtain ⟨z', hz', h3⟩ := h2
        subst h3
        simp [h1, hz']
      · rw [List.getElem?_eq_none (by omega), List.getElem?_eq_none (by simp; omega)]
    · cases h
theorem tErr : (Tryz.prog.globals[4]?).map (·.type) = some 88 := by kernel_rfl
theorem tSigns : (Tryz.prog.globals[0]?).map (·.type) = some 91 := by kernel_rfl
theorem cErr : Tryz.prog.cellsOf 146 = 1 := by kernel_rfl
theorem cStr : Tryz.prog.cellsOf 9 = 1 := by kernel_rfl
theorem cSigns : Tryz.prog.cellsOf 91 = 16 := by kernel_rfl
theorem star_err : "*" ++ "errors.errorString" = "*errors.errorString" := by decide
theorem row_err (u : TypeId) (h : Tryz.prog.typeName? 3 u = some "*errors.errorString") : u = 144 :=
  typeName_ptr_named (nm := "errors.errorString") (by rw [star_err]; kernel_rfl) (by kernel_rfl) (by decide) u (by rw [star_err]; exact h)
theorem signs_of_head {W : World} {rest : List (String × DataW Unit)} (h : laidMet Tryz.prog (("stile/lex.signs", Rows.laid_stile_lex_signs) :: rest) W) : W.var? Tryz.prog "stile/lex.signs" = some signsV := by
  obtain ⟨ps, ⟨g', t', cs, fuel, p, q, hg', ht', hvar, hd, _, _⟩, _⟩ := h
  obtain rfl := Option.some.inj (gSigns.symm.trans hg')
  obtain rfl := Option.some.inj (tSigns.symm.trans ht')
  have hc := cells_of_strs (zs := signs) Tryz.underlying91 Tryz.underlying9 cStr cSigns hd
  rw [hvar]
  have : cs = signsV := by
    rw [← Array.toArray_toList (xs := cs), hc]
    rfl
  rw [this]
theorem lib_of_laid {W : World} {l : List (String × DataW Unit)} (hl : l = Rows.parseReadsRow.laid) (h : laidMetH Tryz.prog l W) : ∃ a, LibW a W := by
  subst hl
  rw [MakeChecks.laidMetH_plain _ _ _ (by kernel_rfl)] at h
  have h2 := h.tail.tail
  have h4 := h2.tail.tail
  have h6 := h4.tail.tail
  obtain ⟨a, s0, hv0, -, -, -⟩ := laid_sentinel h4 gErr tErr Tryz.underlying88 row_err Tryz.underlying144 Tryz.underlying146 rfl rfl Tryz.underlying9 cErr cStr
  exact ⟨a, signs_of_head h6, hv0⟩
end Go.Proofs.YtaenpacfbheppaaGreatDoor
