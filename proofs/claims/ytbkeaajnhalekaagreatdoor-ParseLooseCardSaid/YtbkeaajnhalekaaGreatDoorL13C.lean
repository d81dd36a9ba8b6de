/- The document's number. -/
import Derived.Test.YtbkeaajnhalekaaGreatDoorL13B
namespace Go.Proofs.YtbkeaajnhalekaaGreatDoor
open Go.RowKit
set_option linter.unusedVariables false
set_option linter.unusedSimpArgs false

def digs (s : ByteArray) (i n : Nat) : List UInt8 := (rest s i).take n
theorem val_snoc (d : List UInt8) (c : UInt8) : val (d ++ [c]) = 10 * val d + (c.toNat - 48) := by simp [val, List.foldl_append]
theorem digs_succ (s : ByteArray) {i n : Nat} (h : i + n < s.size) : digs s i (n + 1) = digs s i n ++ [s[i + n]] := by
  unfold digs
  rw [List.take_add_one, rest_get s h]
  simp
theorem dg_end (s : ByteArray) {i n : Nat} (hn : i + n ≤ s.size) (h1 : ∀ j, j < n → ∀ h : i + j < s.size, isDg s[i + j] = true) (h2 : ∀ h : i + n < s.size, isDg s[i + n] = false) : ((rest s i).takeWhile isDg).length = n ∧ (rest s i).takeWhile isDg = digs s i n ∧ (rest s i).dropWhile isDg = rest s (i + n) := by
  have := tw_stop (p := isDg) s s.size i n (by omega) hn h1 h2
  have e : (rest s i).takeWhile isDg = digs s i n := by unfold digs; rw [← this, tw_pre]
  refine ⟨this, e, ?_⟩
  have h3 := List.takeWhile_append_dropWhile (p := isDg) (l := rest s i)
  have h4 : rest s i = digs s i n ++ rest s (i + n) := by
    unfold digs rest
    rw [← List.drop_drop, List.take_append_drop]
  rw [e] at h3
  exact List.append_cancel_left (h3.trans h4)
/-- What number comes to. -/
def NmTo (s : ByteArray) (i : Nat) (e : Ending) : Prop := match nmS (rest s i) with
  | .no 2 => e = .returned (.tuple #[.agg #[.int .i64 0, .string ⟨#[]⟩, .int .i64 0, .int .i64 0], .int .i64 0, .string ⟨#[50, 50, 48, 48, 51]⟩])
  | .no _ => e = .returned (.tuple #[.agg #[.int .i64 0, .string ⟨#[]⟩, .int .i64 0, .int .i64 0], .int .i64 0, .string ⟨#[52, 50, 54, 48, 49]⟩])
  | .tk _ _ v n => e = .returned (.tuple #[.agg #[.int .i64 1, .string ⟨#[]⟩, .int .i64 v, .int .i64 i], .int .i64 n, .string ⟨#[48, 48, 48, 48, 48]⟩])
  | .bl _ => False
/-- What the loop has: the number so far, or that it is too great. -/
def NmV (d : List UInt8) (v : Int) (ov : Bool) : Prop := if ov then 9223372036854775807 < val d else v = (val d : Int) ∧ val d ≤ 9223372036854775807
theorem NmV.step {d : List UInt8} {v : Int} {c : UInt8} (h : NmV d v false) (hc : isDg c = true) : (v > 922337203685477580 ∨ (v = 922337203685477580 ∧ (c.toNat : Int) > 55)) → NmV (d ++ [c]) v true := by
  intro ho
  unfold NmV at h ⊢
  simp only [Bool.false_eq_true, if_false, if_true] at h ⊢
  rw [val_snoc]
  have : 48 ≤ c.toNat ∧ c.toNat ≤ 57 := by
    simp only [isDg, Bool.and_eq_true, decide_eq_true_eq] at hc
    exact ⟨UInt8.le_iff_toNat_le.1 hc.1, UInt8.le_iff_toNat_le.1 hc.2⟩
  omega
theorem NmV.more {d : List UInt8} {v u : Int} {c : UInt8} (h : NmV d v true) : NmV (d ++ [c]) u true := by
  unfold NmV at h ⊢
  simp only [if_true] at h ⊢
  rw [val_snoc]
  omega
theorem NmV.add {d : List UInt8} {v : Int} {c : UInt8} (h : NmV d v false) (hc : isDg c = true) (ho : ¬ (v > 922337203685477580 ∨ (v = 922337203685477580 ∧ (c.toNat : Int) > 55))) : NmV (d ++ [c]) (10 * v + ((c.toNat : Int) - 48)) false ∧ 0 ≤ 10 * v + ((c.toNat : Int) - 48) ∧ 10 * v + ((c.toNat : Int) - 48) ≤ 9223372036854775807 := by
  unfold NmV at h ⊢
  simp only [Bool.false_eq_true, if_false] at h ⊢
  rw [val_snoc]
  have : 48 ≤ c.toNat ∧ c.toNat ≤ 57 := by
    simp only [isDg, Bool.and_eq_true, decide_eq_true_eq] at hc
    exact ⟨UInt8.le_iff_toNat_le.1 hc.1, UInt8.le_iff_toNat_le.1 hc.2⟩
  omega
theorem NmTo.over {s : ByteArray} {i n : Nat} {v : Int} (h : (rest s i).takeWhile isDg = digs s i n) (hv : NmV (digs s i n) v true) : NmTo s i (.returned (.tuple #[.agg #[.int .i64 0, .string ⟨#[]⟩, .int .i64 0, .int .i64 0], .int .i64 0, .string ⟨#[50, 50, 48, 48, 51]⟩])) := by
  unfold NmV at hv
  simp only [if_true] at hv
  unfold NmTo nmS
  rw [h, if_pos hv]
  rfl
theorem NmTo.syn {s : ByteArray} {i n : Nat} {v : Int} (h : (rest s i).takeWhile isDg = digs s i n) (hd : (rest s i).dropWhile isDg = rest s (i + n)) (hv : NmV (digs s i n) v false) (hl : i + n < s.size) (hc : isLt s[i + n] = true) : NmTo s i (.returned (.tuple #[.agg #[.int .i64 0, .string ⟨#[]⟩, .int .i64 0, .int .i64 0], .int .i64 0, .string ⟨#[52, 50, 54, 48, 49]⟩])) := by
  unfold NmV at hv
  simp only [Bool.false_eq_true, if_false] at hv
  unfold NmTo nmS
  rw [h, if_neg (by omega), hd, rest_at s hl, if_pos (by simpa using hc)]
  rfl
theorem NmTo.ok {s : ByteArray} {i n : Nat} {v : Int} (hn : ((rest s i).takeWhile isDg).length = n) (h : (rest s i).takeWhile isDg = digs s i n) (hd : (rest s i).dropWhile isDg = rest s (i + n)) (hv : NmV (digs s i n) v false) (hc : ∀ hl : i + n < s.size, isLt s[i + n] = false) : NmTo s i (.returned (.tuple #[.agg #[.int .i64 1, .string ⟨#[]⟩, .int .i64 v, .int .i64 i], .int .i64 n, .string ⟨#[48, 48, 48, 48, 48]⟩])) := by
  unfold NmV at hv
  simp only [Bool.false_eq_true, if_false] at hv
  unfold NmTo nmS
  rw [hn, h, if_neg (by omega), hd]
  by_cases hl : i + n < s.size
  · rw [rest_at s hl, if_neg (by simp [hc hl]), hv.1]
  · rw [rest_end s (by omega), if_neg (by simp), hv.1]
set_option maxRecDepth 100000 in
set_option maxHeartbeats 2000000 in
theorem number_ref (s : ByteArray) (hs : s.size ≤ 10000) {i : Nat} (hi : i < s.size) (w : World) : Calls Tryz.prog 29 #[.string s, .int .i64 i] w fun e w' => NmTo s i e ∧ Below w.heap.size w w' := by
  have hb0 : Below w.heap.size w (w.alloc (.cells #[.int .i64 0, .string ⟨#[]⟩, .int .i64 0, .int .i64 0] 41)) := (Below.refl _ _).alloc (Nat.le_refl _) _
  have hnew := heap_alloc_new w (.cells #[.int .i64 0, .string ⟨#[]⟩, .int .i64 0, .int .i64 0] 41)
  have hsz : (w.alloc (.cells #[.int .i64 0, .string ⟨#[]⟩, .int .i64 0, .int .i64 0] 41)).heap.size = w.heap.size + 1 := by simp
  generalize hw0 : w.alloc (.cells #[.int .i64 0, .string ⟨#[]⟩, .int .i64 0, .int .i64 0] 41) = w0 at *
  have HF : Hid (∀ W, Below w0.heap.size w0 W → W.cell? ⟨w.heap.size, 0, none⟩ = some (.int .i64 0) ∧ W.cell? ⟨w.heap.size, 1, none⟩ = some (.string ⟨#[]⟩) ∧ W.cell? ⟨w.heap.size, 2, none⟩ = some (.int .i64 0) ∧ W.cell? ⟨w.heap.size, 3, none⟩ = some (.int .i64 0) ∧ (∀ o, W.frozen? ⟨w.heap.size, o, none⟩ = false)) := fun W hb => by
    have e := (hb.block w.heap.size (by omega)).trans hnew
    refine ⟨by rw [cell_of_row W _ 0 _ _ _ e]; rfl, by rw [cell_of_row W _ 1 _ _ _ e]; rfl, by rw [cell_of_row W _ 2 _ _ _ e]; rfl, by rw [cell_of_row W _ 3 _ _ _ e]; rfl, fun o => by simp [World.frozen?, e]⟩
  have HW : Hid (Below w.heap.size w w0) := hb0
  have HSZ : Hid (w0.heap.size = w.heap.size + 1) := hsz
  clear hnew hb0 hsz
  go_enter Tryz.func29, Tryz.ntmps29
  go_wp2_with fail
  clear hw0
  go_loopw [7, 8, 9] (fun nv vv ov wr => ∃ (n : Nat) (v : Int) (o : Bool), nv = .int .i64 n ∧ vv = .int .u64 v ∧ ov = .bool o ∧ i + n ≤ s.size ∧ (0 ≤ v ∧ v ≤ 9223372036854775807) ∧ Hid (NmV (digs s i n) v o) ∧ Hid (∀ j, j < n → ∀ h : i + j < s.size, isDg s[i + j] = true) ∧ Hid (Below w0.heap.size w0 wr)) (fun nv _ _ _ => s.size - (intOf nv).toNat)
  case atStart => exact ⟨0, 0, false, rfl, rfl, rfl, by omega, by omega, ⟨by simp [digs, val], by simp [digs, val]⟩, fun j hj => by omega, Below.refl _ _⟩
  case round =>
    rename World => wr
    obtain ⟨n, v, o, rfl, rfl, rfl, hn, ⟨hv0, hv1⟩, HV, HA, HB⟩ := hrel
    obtain ⟨z0, z1, z2, z3, zf⟩ := HF.out wr HB.out
    have HC : Hid (Below w.heap.size w wr) := HW.out.trans (HB.out.mono HW.out.size)
    by_cases hlt : i + n < s.size
    · have tl : (i : Int) + (n : Int) < (s.size : Int) := by omega
      have hdi := digit_ref (s[i + n].toNat : Int)
      rw [dgI_of] at hdi
      cases hwd : isDg s[i + n] with
      | false =>
        rw [hwd] at hdi
        obtain ⟨e1, e2, e3⟩ := dg_end s hn HA.out (fun _ => hwd)
        have hle := letter_ref (s[i + n].toNat : Int)
        rw [ltI_of] at hle
        cases o with
        | true =>
          have HE := NmTo.over e2 HV.out
          clear e1 e2 e3 hle
          go_wp2_with fail
          refine (hdi _).mono ?_
          rintro e w1 ⟨rfl, rfl⟩
          clear hdi
          go_wp2_with fail
          refine bodyPost_ret (v := .tuple #[.agg #[.int .i64 0, .string ⟨#[]⟩, .int .i64 0, .int .i64 0], .int .i64 0, .string ⟨#[50, 50, 48, 48, 51]⟩]) ?_ rfl ⟨HE, ?_⟩
          · simp [results, Tryz.results29, go_sem, z0, z1, z2, z3]
          · exact (((HC.out.setCell (p := ⟨w.heap.size, 0, none⟩) (Nat.le_refl _) _).setCell (p := ⟨w.heap.size, 1, none⟩) (Nat.le_refl _) _).setCell (p := ⟨w.heap.size, 2, none⟩) (Nat.le_refl _) _).setCell (p := ⟨w.heap.size, 3, none⟩) (Nat.le_refl _) _
        | false =>
          cases hl : isLt s[i + n] with
          | true =>
            rw [hl] at hle
            have HE := NmTo.syn e2 e3 HV.out hlt hl
            clear e1 e2 e3
            go_wp2_with fail
            refine (hdi _).mono ?_
            rintro e w1 ⟨rfl, rfl⟩
            clear hdi
            go_wp2_with fail
            refine (hle _).mono ?_
            rintro e w1 ⟨rfl, rfl⟩
            clear hle
            go_wp2_with fail
            refine bodyPost_ret (v := .tuple #[.agg #[.int .i64 0, .string ⟨#[]⟩, .int .i64 0, .int .i64 0], .int .i64 0, .string ⟨#[52, 50, 54, 48, 49]⟩]) ?_ rfl ⟨HE, ?_⟩
            · simp [results, Tryz.results29, go_sem, z0, z1, z2, z3]
            · exact (((HC.out.setCell (p := ⟨w.heap.size, 0, none⟩) (Nat.le_refl _) _).setCell (p := ⟨w.heap.size, 1, none⟩) (Nat.le_refl _) _).setCell (p := ⟨w.heap.size, 2, none⟩) (Nat.le_refl _) _).setCell (p := ⟨w.heap.size, 3, none⟩) (Nat.le_refl _) _
          | false =>
            rw [hl] at hle
            have HE := NmTo.ok e1 e2 e3 HV.out (fun _ => hl)
            clear e1 e2 e3
            go_wp2_with fail
            refine (hdi _).mono ?_
            rintro e w1 ⟨rfl, rfl⟩
            clear hdi
            go_wp2_with fail
            refine (hle _).mono ?_
            rintro e w1 ⟨rfl, rfl⟩
            clear hle
            go_wp2_with fail
            refine bodyPost_ret (v := .tuple #[.agg #[.int .i64 1, .string ⟨#[]⟩, .int .i64 v, .int .i64 i], .int .i64 n, .string ⟨#[48, 48, 48, 48, 48]⟩]) ?_ rfl ⟨HE, ?_⟩
            · simp [results, Tryz.results29, go_sem, z0, z1, z2, z3]
            · exact (((HC.out.setCell (p := ⟨w.heap.size, 0, none⟩) (Nat.le_refl _) _).setCell (p := ⟨w.heap.size, 1, none⟩) (Nat.le_refl _) _).setCell (p := ⟨w.heap.size, 2, none⟩) (Nat.le_refl _) _).setCell (p := ⟨w.heap.size, 3, none⟩) (Nat.le_refl _) _
      | true =>
        rw [hwd] at hdi
        have HN : Hid (∀ j, j < n + 1 → ∀ h : i + j < s.size, isDg s[i + j] = true) := fun j hj h => by
          by_cases e : j = n
          · subst e; exact hwd
          · exact HA.out j (by omega) h
        have hx : (48 : Int) ≤ (s[i + n].toNat : Int) ∧ (s[i + n].toNat : Int) ≤ 57 := by
          have h := dgI_of s[i + n]
          rw [hwd] at h
          simp only [dgI, Bool.and_eq_true, decide_eq_true_eq] at h
          exact h
        obtain ⟨hx0, hx1⟩ := hx
        have hds := digs_succ s hlt
        have hcs : v > 922337203685477580 ∨ (¬ v > 922337203685477580 ∧ v = 922337203685477580 ∧ (s[i + n].toNat : Int) > 55) ∨ (¬ v > 922337203685477580 ∧ v = 922337203685477580 ∧ ¬ (s[i + n].toNat : Int) > 55) ∨ (¬ v > 922337203685477580 ∧ ¬ v = 922337203685477580) := by omega
        cases o with
        | true =>
          have HV2 : Hid (NmV (digs s i (n + 1)) v true) := by
            show NmV (digs s i (n + 1)) v true
            rw [hds]; exact HV.out.more
          clear HV HA hds HF z0 z1 z2 z3 zf
          rcases hcs with g1 | ⟨g1, rfl, g3⟩ | ⟨g1, rfl, g3⟩ | ⟨g1, g2⟩
          · clear hwd
            go_wp2_with fail
            refine (hdi _).mono ?_
            rintro e w1 ⟨rfl, rfl⟩
            clear hdi
            go_wp2_with fail
            go_roundw
            case rel => exact ⟨n + 1, v, true, by go_num, rfl, rfl, by omega, ⟨hv0, hv1⟩, HV2, HN, HB⟩
            case measure => simp [intOf]; omega
          · clear hwd
            go_wp2_with fail
            refine (hdi _).mono ?_
            rintro e w1 ⟨rfl, rfl⟩
            clear hdi
            go_wp2_with fail
            go_roundw
            case rel => exact ⟨n + 1, _, true, by go_num, rfl, rfl, by omega, ⟨hv0, hv1⟩, HV2, HN, HB⟩
            case measure => simp [intOf]; omega
          · clear hwd
            go_wp2_with fail
            refine (hdi _).mono ?_
            rintro e w1 ⟨rfl, rfl⟩
            clear hdi
            go_wp2_with fail
            go_roundw
            case rel => exact ⟨n + 1, _, true, by go_num, rfl, rfl, by omega, ⟨hv0, hv1⟩, HV2, HN, HB⟩
            case measure => simp [intOf]; omega
          · have g2' : (v == 922337203685477580) = false := by simpa using g2
            clear hwd
            go_wp2_with fail
            refine (hdi _).mono ?_
            rintro e w1 ⟨rfl, rfl⟩
            clear hdi
            go_wp2_with fail
            go_roundw
            case rel => exact ⟨n + 1, v, true, by go_num, rfl, rfl, by omega, ⟨hv0, hv1⟩, HV2, HN, HB⟩
            case measure => simp [intOf]; omega
        | false =>
          by_cases hov : v > 922337203685477580 ∨ (v = 922337203685477580 ∧ (s[i + n].toNat : Int) > 55)
          · have HV2 : Hid (NmV (digs s i (n + 1)) v true) := by
              show NmV (digs s i (n + 1)) v true
              rw [hds]; exact HV.out.step hwd hov
            clear HV HA hds HF z0 z1 z2 z3 zf hcs
            rcases hov with g1 | ⟨rfl, g3⟩
            · clear hwd
              go_wp2_with fail
              refine (hdi _).mono ?_
              rintro e w1 ⟨rfl, rfl⟩
              clear hdi
              go_wp2_with fail
              go_roundw
              case rel => exact ⟨n + 1, _, true, by go_num, rfl, rfl, by omega, ⟨hv0, hv1⟩, HV2, HN, HB⟩
              case measure => simp [intOf]; omega
            · clear hwd
              go_wp2_with fail
              refine (hdi _).mono ?_
              rintro e w1 ⟨rfl, rfl⟩
              clear hdi
              go_wp2_with fail
              go_roundw
              case rel => exact ⟨n + 1, _, true, by go_num, rfl, rfl, by omega, ⟨hv0, hv1⟩, HV2, HN, HB⟩
              case measure => simp [intOf]; omega
          · have hp := HV.out.add hwd hov
            rw [← hds] at hp
            have HP := Go.Proofs.YtbkeaajnhalekaaGreatDoor.Hid.mk' hp
            obtain ⟨_, p1, p2⟩ := hp
            have g1 : ¬ v > 922337203685477580 := fun h => hov (Or.inl h)
            have g2 : v = 922337203685477580 → ¬ (s[i + n].toNat : Int) > 55 := fun h h' => hov (Or.inr ⟨h, h'⟩)
            clear HV HA hds HF z0 z1 z2 z3 zf hcs hov
            by_cases g3 : v = 922337203685477580
            · have g4 := g2 g3
              subst g3
              clear hwd g2
              go_wp2_with fail
              refine (hdi _).mono ?_
              rintro e w1 ⟨rfl, rfl⟩
              clear hdi
              go_wp2_with fail
              go_roundw
              case rel => exact ⟨n + 1, _, false, by go_num, rfl, rfl, by omega, ⟨HP.out.2.1, HP.out.2.2⟩, HP.out.1, HN, HB⟩
              case measure => simp [intOf]; omega
            · have g3' : (v == 922337203685477580) = false := by simpa using g3
              clear hwd g2
              go_wp2_with fail
              refine (hdi _).mono ?_
              rintro e w1 ⟨rfl, rfl⟩
              clear hdi
              go_wp2_with fail
              go_roundw
              case rel => exact ⟨n + 1, _, false, by go_num, rfl, rfl, by omega, ⟨HP.out.2.1, HP.out.2.2⟩, HP.out.1, HN, HB⟩
              case measure => simp [intOf]; omega
    · have tl : ¬ (i : Int) + (n : Int) < (s.size : Int) := by omega
      obtain ⟨e1, e2, e3⟩ := dg_end s hn HA.out (fun h => absurd h hlt)
      cases o with
      | true =>
        have HE := NmTo.over e2 HV.out
        clear e1 e2 e3
        go_wp2_with fail
        refine bodyPost_ret (v := .tuple #[.agg #[.int .i64 0, .string ⟨#[]⟩, .int .i64 0, .int .i64 0], .int .i64 0, .string ⟨#[50, 50, 48, 48, 51]⟩]) ?_ rfl ⟨HE, ?_⟩
        · simp [results, Tryz.results29, go_sem, z0, z1, z2, z3]
        · exact (((HC.out.setCell (p := ⟨w.heap.size, 0, none⟩) (Nat.le_refl _) _).setCell (p := ⟨w.heap.size, 1, none⟩) (Nat.le_refl _) _).setCell (p := ⟨w.heap.size, 2, none⟩) (Nat.le_refl _) _).setCell (p := ⟨w.heap.size, 3, none⟩) (Nat.le_refl _) _
      | false =>
        have HE := NmTo.ok e1 e2 e3 HV.out (fun h => absurd h hlt)
        clear e1 e2 e3
        go_wp2_with fail
        refine bodyPost_ret (v := .tuple #[.agg #[.int .i64 1, .string ⟨#[]⟩, .int .i64 v, .int .i64 i], .int .i64 n, .string ⟨#[48, 48, 48, 48, 48]⟩]) ?_ rfl ⟨HE, ?_⟩
        · simp [results, Tryz.results29, go_sem, z0, z1, z2, z3]
        · exact (((HC.out.setCell (p := ⟨w.heap.size, 0, none⟩) (Nat.le_refl _) _).setCell (p := ⟨w.heap.size, 1, none⟩) (Nat.le_refl _) _).setCell (p := ⟨w.heap.size, 2, none⟩) (Nat.le_refl _) _).setCell (p := ⟨w.heap.size, 3, none⟩) (Nat.le_refl _) _
end Go.Proofs.YtbkeaajnhalekaaGreatDoor
