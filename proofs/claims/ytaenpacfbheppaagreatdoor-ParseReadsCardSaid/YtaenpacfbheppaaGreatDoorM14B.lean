/- The program's parser: what takes tokens. The program's parser: what takes tokens (more). How deep a tree is: what is remembered of the lists that have been gone through. How deep a tree is: the program's Depth. The program's parser: what takes tokens (walks by genp.py). The program's parser: a token of a kind, a name, whether a name stands, whether a body is opened. The program's parser: signs, numbers, names (walks by genp.py). Rows of trees that grow; a tree's own row, opened. The program's parser: what stands in parentheses, lists, chains. -/
import Derived.Test.YtaenpacfbheppaaGreatDoorM14A
import Derived.LaidEql
import Derived.Laws.StructEq
import Derived.MapKept
set_option maxHeartbeats 16000000
set_option maxRecDepth 100000
set_option linter.unusedVariables false
set_option linter.unusedSimpArgs false
namespace Go.Proofs.YtaenpacfbheppaaGreatDoor
open Go.RowKit

theorem q_index (w : World) (kb : Nat) (ws : List ByteArray) (x : ByteArray) (hn : ws.length ≤ 100) (hcell : ∀ i (h : i < ws.length), w.cell? ⟨kb, i, none⟩ = some (.string ws[i])) :
    Calls Tryz.prog 129 #[.slice (some ⟨kb, 0, none⟩) ws.length ws.length, .string x] w fun e w' => ∃ i : Int, e = .returned (.int .i64 i) ∧ w' = w ∧ -1 ≤ i ∧ decide (0 ≤ i) = (ws.map (·.data.toList)).contains x.data.toList := by
  obtain ⟨bq, hbq⟩ : ∃ b, b = (ws.map (·.data.toList)).contains x.data.toList := ⟨_, rfl⟩
  rw [← hbq]
  have HQ := hidk hbq
  clear hbq
  go_enter Tryz.func129, Tryz.ntmps129
  go_wp2_with fail
  go_loop [8] (fun y => ∃ i : Nat, i ≤ ws.length ∧ y = .int .i64 i ∧ Hid (∀ j (h : j < ws.length), j < i → (x.data.toList == ws[j].data.toList) = false)) (fun y => ws.length - (intOf y).toNat)
  case atStart => exact ⟨0, Nat.zero_le _, rfl, fun j h hj => by omega⟩
  case round =>
    obtain ⟨i, hi, rfl, HB⟩ := hrel
    by_cases hlt : i < ws.length
    · have hc := hcell i hlt
      have tlt : (i : Int) < (ws.length : Int) := by omega
      have tge : (0 : Int) ≤ (i : Int) := by omega
      have hq : (x.toList == ws[i].toList) = (x.data.toList == ws[i].data.toList) := by rw [Lib.toList_data, Lib.toList_data]
      cases he : x.data.toList == ws[i].data.toList with
      | true =>
        have HG : Hid (bq = true) := by
          show _ = _
          rw [HQ.out]
          rw [List.contains_iff_exists_mem_beq]
          exact ⟨_, List.mem_map.2 ⟨ws[i], List.getElem_mem _, rfl⟩, he⟩
        rw [he] at hq
        generalize ws[i] = wd at *
        clear he hcell HQ
        go_wp2_with fail
        go_ret
        exact ⟨i, rfl, rfl, by omega, by have h1 := HG.out; subst h1; simp⟩
      | false =>
        have HN : Hid (∀ j (h : j < ws.length), j < i + 1 → (x.data.toList == ws[j].data.toList) = false) := fun j h hj => by
          by_cases e : j = i
          · subst e; exact he
          · exact HB.out j h (by omega)
        rw [he] at hq
        generalize ws[i] = wd at *
        clear he hcell
        go_wp2_with fail
        go_round
        case rel => exact ⟨i + 1, by omega, by go_num, HN⟩
        case measure => simp [intOf]; omega
    · obtain rfl : i = ws.length := by omega
      have HG : Hid (bq = false) := by
        show _ = _
        rw [HQ.out]
        rw [Bool.eq_false_iff]
        intro h
        rw [List.contains_iff_exists_mem_beq] at h
        obtain ⟨a, ha, he⟩ := h
        obtain ⟨b, hb, rfl⟩ := List.mem_map.1 ha
        obtain ⟨j, hj, rfl⟩ := List.mem_iff_getElem.1 hb
        have := HB.out j hj hj
        rw [this] at he
        cases he
      clear hcell HQ
      go_wp2_with fail
      go_ret
      exact ⟨-1, rfl, rfl, by omega, by have h1 := HG.out; subst h1; simp⟩
theorem q_contains (w : World) (kb : Nat) (ws : List ByteArray) (x : ByteArray) (hn : ws.length ≤ 100) (hcell : ∀ i (h : i < ws.length), w.cell? ⟨kb, i, none⟩ = some (.string ws[i])) :
    Calls Tryz.prog 100 #[.slice (some ⟨kb, 0, none⟩) ws.length ws.length, .string x] w fun e w' => e = .returned (.bool ((ws.map (·.data.toList)).contains x.data.toList)) ∧ w' = w := by
  have hi := q_index w kb ws x hn hcell
  generalize (ws.map (·.data.toList)).contains x.data.toList = bq at *
  go_enter Tryz.func100, Tryz.ntmps100
  go_wp2_with (go_at_call 129; refine hi.mono ?_; rintro e w1 ⟨i, rfl, hw1, hi1, hb⟩; obtain rfl := hw1.symm)
  go_ret
  exact ⟨by rw [← hb]; rfl, rfl⟩
def oO : Option (List UInt8 × List Tok) → List Tok → Out
  | none, ts => .v (.tuple #[.string ⟨#[]⟩, .bool false]) (.p ts)
  | some (x, r), _ => .v (.tuple #[.string ⟨x.toArray⟩, .bool true]) (.p r)
theorem useO {E : Env} {B : Nat} {w0 w : World} {H : List Bx} {L : List Tn} {f : Nat} {args : Array Value} {R : Ending → World → Prop} {o : Option (List UInt8 × List Tok)} {ts : List Tok} (h : Calls Tryz.prog f args w ((oO o ts).P E B w0 H L))
    (h0 : o = none → ∀ W, Cx E B w0 W (.p ts) H L → R (.returned (.tuple #[.string ⟨#[]⟩, .bool false])) W) (h1 : ∀ x r, o = some (x, r) → ∀ W, Cx E B w0 W (.p r) H L → R (.returned (.tuple #[.string ⟨x.toArray⟩, .bool true])) W) : Calls Tryz.prog f args w R := by
  refine h.mono fun e W hp => ?_
  rcases o with _ | ⟨x, r⟩
  · obtain ⟨rfl, hc⟩ := hp; exact h0 rfl W hc
  · obtain ⟨rfl, hc⟩ := hp; exact h1 x r rfl W hc
theorem endO0 {E : Env} {B : Nat} {w0 W : World} {H : List Bx} {L : List Tn} {o : Option (List UInt8 × List Tok)} {ts : List Tok} (h : o = none) (hc : Cx E B w0 W (.p ts) H L) : (oO o ts).P E B w0 H L (.returned (.tuple #[.string ⟨#[]⟩, .bool false])) W := by
  subst h; exact ⟨rfl, hc⟩
theorem endO1 {E : Env} {B : Nat} {w0 W : World} {H : List Bx} {L : List Tn} {o : Option (List UInt8 × List Tok)} {ts r : List Tok} {x : List UInt8} (h : o = some (x, r)) (hc : Cx E B w0 W (.p r) H L) : (oO o ts).P E B w0 H L (.returned (.tuple #[.string ⟨x.toArray⟩, .bool true])) W := by
  subst h; exact ⟨rfl, hc⟩
theorem drop_nil {l : List Tok} {i : Nat} (hi : i ≤ l.length) (h : l.drop i = []) : i = l.length := by
  have := congrArg List.length h
  simp at this; omega
theorem drop_cons {l r : List Tok} {t : Tok} {i : Nat} (h : l.drop i = t :: r) : ∃ hi : i < l.length, l[i] = t ∧ l.drop (i + 1) = r := by
  have hi : i < l.length := by
    rcases Nat.lt_or_ge i l.length with h1 | h1
    · exact h1
    · rw [List.drop_eq_nil_of_le h1] at h; cases h
  rw [List.drop_eq_getElem_cons hi] at h
  cases h
  exact ⟨hi, rfl, rfl⟩
theorem q_oneOf {E : Env} {B : Nat} {w0 w : World} {ts : List Tok} {H : List Bx} {L : List Tn} (ws : List ByteArray) {kb : Nat} (hC : Cx E B w0 w (.p ts) ((kb, ws.map Value.string, 9) :: H) L) (hn : ws.length ≤ 100) (kd : Int) :
    Calls Tryz.prog 62 #[.pointer (some ⟨E.b, 0, none⟩), .int .i64 kd, .slice (some ⟨kb, 0, none⟩) ws.length ws.length] w ((oO (oneF kd (ws.map (·.data.toList)) ts) ts).P E B w0 H L) := by
  have HC : Hid (Cx E B w0 w (.p ts) H L) := hC.less (List.sublist_cons_self _ _) (fun x hx => hx)
  have hcell : ∀ W, Below w.heap.size w W → ∀ i (h : i < ws.length), W.cell? ⟨kb, i, none⟩ = some (.string ws[i]) := fun W hb i h => (hC.keepB hb).cell 0 rfl i (by simp [h])
  obtain ⟨i0, ao, cap, hi0, hts, hpc⟩ := hC.pc
  obtain ⟨hv, c0, c1, fz, hcap⟩ := hpc
  have h6 := hC.ok.len
  have hbz := hC.st.lt
  cases ts with
  | nil =>
    obtain rfl := drop_nil hi0 hts
    clear hcell hv hC hts
    go_enter Tryz.func62, Tryz.ntmps62
    go_wp2_with fail
    go_quiet (fail)
    rename Nat => nq
    go_wp2_with fail
    go_ret2
    exact endO0 rfl (HC.out.keepB ⟨rfl, rfl, rfl, Nat.le_refl _, fun _ _ => rfl⟩)
  | cons t r =>
    obtain ⟨hlt, ht, hr⟩ := drop_cons hts
    obtain ⟨g, cap', hv', hcap', t0, t1, t2, t3⟩ := hC.tok (ts := t :: r) hlt
    rw [ht] at t0 t1 t2 t3
    rw [hv] at hv'
    cases hv'
    have hne : ((i0 : Int) == (E.l.length : Int)) = false := by rw [beq_eq_false_iff_ne]; omega
    have tlt : (i0 : Int) < (E.l.length : Int) := by omega
    have tge : (0 : Int) ≤ (i0 : Int) := by omega
    have hgz := (hC.st.row.lo g (by rw [hv]; rfl)).2
    have HM : Hid (∀ W, Below w.heap.size w W → Cx E B w0 (W.setCell ⟨E.b, 1, none⟩ (.int .i64 ((i0 : Int) + 1))) (.p r) H L) := fun W hb => by
      have := (HC.out.keepB hb).move (j := i0 + 1) (by omega)
      rw [hr] at this
      exact this
    have HX := hidk (fun W hb => q_contains W kb ws ⟨t.s.toArray⟩ hn (hcell W hb))
    have hF : oneF kd (ws.map (·.data.toList)) (t :: r) = if t.k == kd && (ws.map (·.data.toList)).contains t.s then some (t.s, r) else none := rfl
    generalize (ws.map (·.data.toList)).contains t.s = bq at *
    have HAF : Hid (∀ W, Below w.heap.size w W → W.cell? ⟨E.b, 0, none⟩ = some (.slice (some ⟨g, 0, none⟩) E.l.length cap) ∧ W.cell? ⟨E.b, 1, none⟩ = some (.int .i64 i0) ∧ W.frozen? ⟨E.b, 1, none⟩ = false ∧ W.cell? ⟨g, i0 * 4, none⟩ = some (.int .i64 t.k) ∧ W.cell? ⟨g, i0 * 4 + 1, none⟩ = some (.string ⟨t.s.toArray⟩) ∧ W.cell? ⟨g, i0 * 4 + 2, none⟩ = some (.int .i64 t.n) ∧ W.cell? ⟨g, i0 * 4 + 3, none⟩ = some (.int .i64 t.at_) ∧ W.heap.size ≠ E.b ∧ W.heap.size ≠ g ∧ E.b < W.heap.size ∧ g < W.heap.size) := fun W hb =>
      ⟨(hb.cell (p := ⟨E.b, 0, none⟩) hbz).trans c0, (hb.cell (p := ⟨E.b, 1, none⟩) hbz).trans c1, (hb.frozen (p := ⟨E.b, 1, none⟩) hbz).trans fz, (hb.cell (p := ⟨g, i0 * 4, none⟩) hgz).trans t0, (hb.cell (p := ⟨g, i0 * 4 + 1, none⟩) hgz).trans t1, (hb.cell (p := ⟨g, i0 * 4 + 2, none⟩) hgz).trans t2, (hb.cell (p := ⟨g, i0 * 4 + 3, none⟩) hgz).trans t3, by have := hb.size; omega, by have := hb.size; omega, by have := hb.size; omega, by have := hb.size; omega⟩
    have hal : ∀ (W : World), Below w.heap.size w W → ∀ (o : Obj), Below w.heap.size w (W.alloc o).drew := fun W hb o => (hb.alloc hb.size o).drew
    have HAL := hidk hal
    clear hcell hv hC hts ht hr hal
    cases hkd : t.k == kd with
    | false =>
      rw [hkd, Bool.false_and] at hF
      have hkd' : (t.k != kd) = true := by simp only [bne, hkd]; rfl
      rw [hF]
      clear hF
      go_enter Tryz.func62, Tryz.ntmps62
      go_wp2_with fail
      go_quiet (fail)
      rename Nat => nq
      have hb1 : Below w.heap.size w (w.drewN nq) := ⟨rfl, rfl, rfl, Nat.le_refl _, fun _ _ => rfl⟩
      clear c0 c1 fz t0 t1 t2 t3
      generalize w.drewN nq = w1 at *
      obtain ⟨c0, c1, fz, t0, t1, t2, t3, e1, e2, e3, e4⟩ := HAF.out _ hb1
      go_wp2_with fail
      go_region
      all_goals
        go_wp2_with fail
        go_ret2
        exact endO0 rfl (HC.out.keepB (HAL.out _ hb1 _))
    | true =>
      rw [hkd, Bool.true_and] at hF
      have hkd' : (t.k != kd) = false := by simp only [bne, hkd]; rfl
      cases bq with
      | false =>
        rw [if_neg (by simp)] at hF
        rw [hF]
        clear hF
        go_enter Tryz.func62, Tryz.ntmps62
        go_wp2_with fail
        go_quiet (fail)
        rename Nat => nq
        have hb1 : Below w.heap.size w (w.drewN nq) := ⟨rfl, rfl, rfl, Nat.le_refl _, fun _ _ => rfl⟩
        clear c0 c1 fz t0 t1 t2 t3
        generalize w.drewN nq = w1 at *
        obtain ⟨c0, c1, fz, t0, t1, t2, t3, e1, e2, e3, e4⟩ := HAF.out _ hb1
        go_wp2_with fail
        go_region
        all_goals
          go_wp2_with (go_at_call 100; refine (HX.out _ (HAL.out _ hb1 _)).mono ?_; rintro e w1 ⟨rfl, hw1⟩; obtain rfl := hw1.symm)
          go_ret2
          exact endO0 rfl (HC.out.keepB (HAL.out _ hb1 _))
      | true =>
        rw [if_pos rfl] at hF
        rw [hF]
        clear hF
        go_enter Tryz.func62, Tryz.ntmps62
        go_wp2_with fail
        go_quiet (fail)
        rename Nat => nq
        have hb1 : Below w.heap.size w (w.drewN nq) := ⟨rfl, rfl, rfl, Nat.le_refl _, fun _ _ => rfl⟩
        clear c0 c1 fz t0 t1 t2 t3
        generalize w.drewN nq = w1 at *
        obtain ⟨c0, c1, fz, t0, t1, t2, t3, e1, e2, e3, e4⟩ := HAF.out _ hb1
        go_wp2_with fail
        go_region
        all_goals
          go_wp2_with (go_at_call 100; refine (HX.out _ (HAL.out _ hb1 _)).mono ?_; rintro e w1 ⟨rfl, hw1⟩; obtain rfl := hw1.symm)
          go_ret2
          exact endO1 rfl ((HM.out _ hb1).keepB (((Below.refl _ _).alloc (Nat.le_refl _) _).drew))
end Go.Proofs.YtaenpacfbheppaaGreatDoor

namespace Go.Proofs.YtaenpacfbheppaaGreatDoor
open Go.RowKit

section
variable {E : Env} {B : Nat} {w0 w : World} {ts : List Tok} {H : List Bx} {L : List Tn} {kb : Nat}
theorem q_took1 (u1 : List UInt8) (hC : Cx E B w0 w (.p ts) ((kb, [.string ⟨u1.toArray⟩], 9) :: H) L) :
    Calls Tryz.prog 50 #[.pointer (some ⟨E.b, 0, none⟩), .slice (some ⟨kb, 0, none⟩) 1 1] w ((Out.v (.bool (tkB [u1] ts)) (.p (tkR [u1] ts))).P E B w0 H L) := q_took [⟨u1.toArray⟩] hC (by simp)
theorem q_took2 (u1 u2 : List UInt8) (hC : Cx E B w0 w (.p ts) ((kb, [.string ⟨u1.toArray⟩, .string ⟨u2.toArray⟩], 9) :: H) L) :
    Calls Tryz.prog 50 #[.pointer (some ⟨E.b, 0, none⟩), .slice (some ⟨kb, 0, none⟩) 2 2] w ((Out.v (.bool (tkB [u1, u2] ts)) (.p (tkR [u1, u2] ts))).P E B w0 H L) := q_took [⟨u1.toArray⟩, ⟨u2.toArray⟩] hC (by simp)
theorem q_took3 (u1 u2 u3 : List UInt8) (hC : Cx E B w0 w (.p ts) ((kb, [.string ⟨u1.toArray⟩, .string ⟨u2.toArray⟩, .string ⟨u3.toArray⟩], 9) :: H) L) :
    Calls Tryz.prog 50 #[.pointer (some ⟨E.b, 0, none⟩), .slice (some ⟨kb, 0, none⟩) 3 3] w ((Out.v (.bool (tkB [u1, u2, u3] ts)) (.p (tkR [u1, u2, u3] ts))).P E B w0 H L) := q_took [⟨u1.toArray⟩, ⟨u2.toArray⟩, ⟨u3.toArray⟩] hC (by simp)
theorem q_took4 (u1 u2 u3 u4 : List UInt8) (hC : Cx E B w0 w (.p ts) ((kb, [.string ⟨u1.toArray⟩, .string ⟨u2.toArray⟩, .string ⟨u3.toArray⟩, .string ⟨u4.toArray⟩], 9) :: H) L) :
    Calls Tryz.prog 50 #[.pointer (some ⟨E.b, 0, none⟩), .slice (some ⟨kb, 0, none⟩) 4 4] w ((Out.v (.bool (tkB [u1, u2, u3, u4] ts)) (.p (tkR [u1, u2, u3, u4] ts))).P E B w0 H L) := q_took [⟨u1.toArray⟩, ⟨u2.toArray⟩, ⟨u3.toArray⟩, ⟨u4.toArray⟩] hC (by simp)
theorem q_one1 (kd : Int) (u1 : List UInt8) (hC : Cx E B w0 w (.p ts) ((kb, [.string ⟨u1.toArray⟩], 9) :: H) L) :
    Calls Tryz.prog 62 #[.pointer (some ⟨E.b, 0, none⟩), .int .i64 kd, .slice (some ⟨kb, 0, none⟩) 1 1] w ((oO (oneF kd [u1] ts) ts).P E B w0 H L) := q_oneOf [⟨u1.toArray⟩] hC (by simp) kd
theorem q_one2 (kd : Int) (u1 u2 : List UInt8) (hC : Cx E B w0 w (.p ts) ((kb, [.string ⟨u1.toArray⟩, .string ⟨u2.toArray⟩], 9) :: H) L) :
    Calls Tryz.prog 62 #[.pointer (some ⟨E.b, 0, none⟩), .int .i64 kd, .slice (some ⟨kb, 0, none⟩) 2 2] w ((oO (oneF kd [u1, u2] ts) ts).P E B w0 H L) := q_oneOf [⟨u1.toArray⟩, ⟨u2.toArray⟩] hC (by simp) kd
theorem q_one3 (kd : Int) (u1 u2 u3 : List UInt8) (hC : Cx E B w0 w (.p ts) ((kb, [.string ⟨u1.toArray⟩, .string ⟨u2.toArray⟩, .string ⟨u3.toArray⟩], 9) :: H) L) :
    Calls Tryz.prog 62 #[.pointer (some ⟨E.b, 0, none⟩), .int .i64 kd, .slice (some ⟨kb, 0, none⟩) 3 3] w ((oO (oneF kd [u1, u2, u3] ts) ts).P E B w0 H L) := q_oneOf [⟨u1.toArray⟩, ⟨u2.toArray⟩, ⟨u3.toArray⟩] hC (by simp) kd
theorem q_one4 (kd : Int) (u1 u2 u3 u4 : List UInt8) (hC : Cx E B w0 w (.p ts) ((kb, [.string ⟨u1.toArray⟩, .string ⟨u2.toArray⟩, .string ⟨u3.toArray⟩, .string ⟨u4.toArray⟩], 9) :: H) L) :
    Calls Tryz.prog 62 #[.pointer (some ⟨E.b, 0, none⟩), .int .i64 kd, .slice (some ⟨kb, 0, none⟩) 4 4] w ((oO (oneF kd [u1, u2, u3, u4] ts) ts).P E B w0 H L) := q_oneOf [⟨u1.toArray⟩, ⟨u2.toArray⟩, ⟨u3.toArray⟩, ⟨u4.toArray⟩] hC (by simp) kd
theorem q_one6 (kd : Int) (u1 u2 u3 u4 u5 u6 : List UInt8) (hC : Cx E B w0 w (.p ts) ((kb, [.string ⟨u1.toArray⟩, .string ⟨u2.toArray⟩, .string ⟨u3.toArray⟩, .string ⟨u4.toArray⟩, .string ⟨u5.toArray⟩, .string ⟨u6.toArray⟩], 9) :: H) L) :
    Calls Tryz.prog 62 #[.pointer (some ⟨E.b, 0, none⟩), .int .i64 kd, .slice (some ⟨kb, 0, none⟩) 6 6] w ((oO (oneF kd [u1, u2, u3, u4, u5, u6] ts) ts).P E B w0 H L) := q_oneOf [⟨u1.toArray⟩, ⟨u2.toArray⟩, ⟨u3.toArray⟩, ⟨u4.toArray⟩, ⟨u5.toArray⟩, ⟨u6.toArray⟩] hC (by simp) kd
theorem Cx.fin {s : Stt} {H' : List Bx} {L' : List Tn} {x : Tn} (hC : Cx E B w0 w s H' L') (hH : H.Sublist H') (hx : x ∈ L') (hL : ∀ y ∈ L, y ∈ L') : Cx E B w0 w s H (x :: L) :=
  hC.less hH (fun y hy => by rcases List.mem_cons.1 hy with rfl | hy; exact hx; exact hL y hy)
theorem Cx.fin0 {s : Stt} {H' : List Bx} {L' : List Tn} (hC : Cx E B w0 w s H' L') (hH : H.Sublist H') (hL : ∀ y ∈ L, y ∈ L') : Cx E B w0 w s H L := hC.less hH hL
theorem ret_cell {f : Func} {slot k TT : Nat} {a : Act} {R : Ending → World → Prop} {s : Stt} (hr : f.results = #[.cell slot 24]) (hs : a.tmps.getD slot undef = .pointer (some ⟨k, 0, none⟩)) (hd : a.defers = []) (hC : Cx E B w0 w s H L) (i : Nat) {c0 c1 c2 c3 : Value} (hi : H[i]? = some (k, [c0, c1, c2, c3], TT))
    (h : R (.returned (.agg #[c0, c1, c2, c3])) w) : bodyPost Tryz.prog f R .ret a w := by
  obtain ⟨d, hu, hdd⟩ := undNd
  have hrg := hC.range i hi 0 4
  have e := run_loadVar_mid (P := Tryz.prog) w k 0 24 [c0, c1, c2, c3] d hrg hu hdd sizN
  refine bodyPost_ret (v := .agg #[c0, c1, c2, c3]) ?_ hd h
  have hs' : a.tmps[slot]?.getD undef = .pointer (some ⟨k, 0, none⟩) := by simpa using hs
  simp only [results, hr]
  simp [hs', asAddr, e]
theorem ret_cellB {f : Func} {slot sl2 k TT : Nat} {a : Act} {R : Ending → World → Prop} {s : Stt} {v : Value} (hr : f.results = #[.cell slot 24, .tmp sl2]) (hs : a.tmps.getD slot undef = .pointer (some ⟨k, 0, none⟩)) (h2 : a.tmps.getD sl2 undef = v) (hd : a.defers = []) (hC : Cx E B w0 w s H L) (i : Nat) {c0 c1 c2 c3 : Value} (hi : H[i]? = some (k, [c0, c1, c2, c3], TT))
    (h : R (.returned (.tuple #[.agg #[c0, c1, c2, c3], v])) w) : bodyPost Tryz.prog f R .ret a w := by
  obtain ⟨d, hu, hdd⟩ := undNd
  have hrg := hC.range i hi 0 4
  have e := run_loadVar_mid (P := Tryz.prog) w k 0 24 [c0, c1, c2, c3] d hrg hu hdd sizN
  refine bodyPost_ret (v := .tuple #[.agg #[c0, c1, c2, c3], v]) ?_ hd h
  have hs' : a.tmps[slot]?.getD undef = .pointer (some ⟨k, 0, none⟩) := by simpa using hs
  have h2' : a.tmps[sl2]?.getD undef = v := by simpa using h2
  simp only [results, hr]
  simp [hs', h2', asAddr, e]
theorem useDx {s : Stt} {t : Tr} {ao : Option Addr} {cap : Nat} {f : Nat} {args : Array Value} {R : Ending → World → Prop} (h : Calls Tryz.prog f args w fun e W => e = .returned (nv t.op t.s t.n ao t.L.length cap) ∧ Cx E B w0 W s H ((ao, cap, t) :: L)) (h1 : ∀ W, Cx E B w0 W s H ((ao, cap, t) :: L) → R (.returned (nv t.op t.s t.n ao t.L.length cap)) W) : Calls Tryz.prog f args w R := by
  refine h.mono fun e W hp => ?_
  obtain ⟨rfl, hc⟩ := hp; exact h1 W hc
theorem q_node (op s : ByteArray) (ao : Option Addr) (n cap : Nat) (w : World) : Calls Tryz.prog 51 #[.string op, .string s, .slice ao n cap] w fun e w' => e = .returned (.agg #[.string op, .string s, .int .i64 0, .slice ao n cap]) ∧ Below w.heap.size w w' := by
  go_enter Tryz.func51, Tryz.ntmps51
  go_wp2
  refine bodyPost_ret (v := .agg #[.string op, .string s, .int .i64 0, .slice ao n cap]) ?_ rfl ⟨rfl, ?_⟩
  · simp [results, Tryz.results51, go_sem]
  · exact (by repeat (first | exact Below.refl _ _ | assumption | refine Below.alloc ?_ (by first | (simp; done) | (simp; omega)) _ | refine Below.setCell ?_ (by first | (simp; done) | (simp; omega)) _ | refine Below.drew ?_ | refine below_drewN ?_ _))
variable {s : Stt}
theorem q_nodeL (op st : List UInt8) {ao : Option Addr} {cap m : Nat} {l : List Tr} (hC : Cx E B w0 w s H L) (hm : (ao, cap, ls l) ∈ L) (hl : m = l.length) :
    Calls Tryz.prog 51 #[.string ⟨op.toArray⟩, .string ⟨st.toArray⟩, .slice ao m cap] w fun e W => e = .returned (nv (nd op st l).op (nd op st l).s (nd op st l).n ao (nd op st l).L.length cap) ∧ Cx E B w0 W s H ((ao, cap, nd op st l) :: L) := by
  subst hl
  refine (q_node ⟨op.toArray⟩ ⟨st.toArray⟩ ao l.length cap w).mono ?_
  rintro e W ⟨rfl, hb⟩
  exact ⟨rfl, (hC.keepB hb).root (t := ls l) hm op st 0⟩
theorem q_node0 (op st : List UInt8) (hC : Cx E B w0 w s H L) :
    Calls Tryz.prog 51 #[.string ⟨op.toArray⟩, .string ⟨st.toArray⟩, .slice none 0 0] w fun e W => e = .returned (nv (nd op st []).op (nd op st []).s (nd op st []).n none (nd op st []).L.length 0) ∧ Cx E B w0 W s H ((none, 0, nd op st []) :: L) := by
  refine (q_node ⟨op.toArray⟩ ⟨st.toArray⟩ none 0 0 w).mono ?_
  rintro e W ⟨rfl, hb⟩
  exact ⟨rfl, (hC.keepB hb).leaf op st 0⟩
theorem Cx.tree1 {k TT : Nat} {a1 : Option Addr} {p1 : Nat} {t1 : Tr} (op st : List UInt8) (n : Int) (hC : Cx E B w0 w s ((k, ncs a1 p1 t1, TT) :: H) L) (h1 : (a1, p1, t1) ∈ L) : Cx E B w0 w s H ((some ⟨k, 0, none⟩, 1, .mk op st n [t1]) :: L) :=
  hC.tree [(a1, p1)] [t1] rfl (by simp) (by simp [flatK, ncs]) 1 (by unfold maxLen; simp) (fun i hi => by
    simp at hi
    match i, hi with
    | 0, _ => exact h1) op st n
theorem Cx.tree2 {k TT : Nat} {a1 a2 : Option Addr} {p1 p2 : Nat} {t1 t2 : Tr} (op st : List UInt8) (n : Int) (hC : Cx E B w0 w s ((k, ncs a1 p1 t1 ++ ncs a2 p2 t2, TT) :: H) L) (h1 : (a1, p1, t1) ∈ L) (h2 : (a2, p2, t2) ∈ L) : Cx E B w0 w s H ((some ⟨k, 0, none⟩, 2, .mk op st n [t1, t2]) :: L) :=
  hC.tree [(a1, p1), (a2, p2)] [t1, t2] rfl (by simp) (by simp [flatK, ncs]) 2 (by unfold maxLen; simp) (fun i hi => by
    simp at hi
    match i, hi with
    | 0, _ => exact h1
    | 1, _ => exact h2) op st n
theorem Cx.tree3 {k TT : Nat} {a1 a2 a3 : Option Addr} {p1 p2 p3 : Nat} {t1 t2 t3 : Tr} (op st : List UInt8) (n : Int) (hC : Cx E B w0 w s ((k, ncs a1 p1 t1 ++ ncs a2 p2 t2 ++ ncs a3 p3 t3, TT) :: H) L) (h1 : (a1, p1, t1) ∈ L) (h2 : (a2, p2, t2) ∈ L) (h3 : (a3, p3, t3) ∈ L) : Cx E B w0 w s H ((some ⟨k, 0, none⟩, 3, .mk op st n [t1, t2, t3]) :: L) :=
  hC.tree [(a1, p1), (a2, p2), (a3, p3)] [t1, t2, t3] rfl (by simp) (by simp [flatK, ncs]) 3 (by unfold maxLen; simp) (fun i hi => by
    simp at hi
    match i, hi with
    | 0, _ => exact h1
    | 1, _ => exact h2
    | 2, _ => exact h3) op st n
theorem q_node1 (op st : List UInt8) {k TT : Nat} {a1 : Option Addr} {p1 : Nat} {t1 : Tr} (hC : Cx E B w0 w s ((k, ncs a1 p1 t1, TT) :: H) L) (h1 : (a1, p1, t1) ∈ L) :
    Calls Tryz.prog 51 #[.string ⟨op.toArray⟩, .string ⟨st.toArray⟩, .slice (some ⟨k, 0, none⟩) 1 1] w fun e W => e = .returned (nv (nd op st [t1]).op (nd op st [t1]).s (nd op st [t1]).n (some ⟨k, 0, none⟩) (nd op st [t1]).L.length 1) ∧ Cx E B w0 W s H ((some ⟨k, 0, none⟩, 1, nd op st [t1]) :: L) := by
  refine (q_node ⟨op.toArray⟩ ⟨st.toArray⟩ _ 1 1 w).mono ?_
  rintro e W ⟨rfl, hb⟩
  exact ⟨rfl, (hC.keepB hb).tree1 op st 0 h1⟩
theorem q_node2 (op st : List UInt8) {k TT : Nat} {a1 a2 : Option Addr} {p1 p2 : Nat} {t1 t2 : Tr} (hC : Cx E B w0 w s ((k, ncs a1 p1 t1 ++ ncs a2 p2 t2, TT) :: H) L) (h1 : (a1, p1, t1) ∈ L) (h2 : (a2, p2, t2) ∈ L) :
    Calls Tryz.prog 51 #[.string ⟨op.toArray⟩, .string ⟨st.toArray⟩, .slice (some ⟨k, 0, none⟩) 2 2] w fun e W => e = .returned (nv (nd op st [t1, t2]).op (nd op st [t1, t2]).s (nd op st [t1, t2]).n (some ⟨k, 0, none⟩) (nd op st [t1, t2]).L.length 2) ∧ Cx E B w0 W s H ((some ⟨k, 0, none⟩, 2, nd op st [t1, t2]) :: L) := by
  refine (q_node ⟨op.toArray⟩ ⟨st.toArray⟩ _ 2 2 w).mono ?_
  rintro e W ⟨rfl, hb⟩
  exact ⟨rfl, (hC.keepB hb).tree2 op st 0 h1 h2⟩
theorem q_node3 (op st : List UInt8) {k TT : Nat} {a1 a2 a3 : Option Addr} {p1 p2 p3 : Nat} {t1 t2 t3 : Tr} (hC : Cx E B w0 w s ((k, ncs a1 p1 t1 ++ ncs a2 p2 t2 ++ ncs a3 p3 t3, TT) :: H) L) (h1 : (a1, p1, t1) ∈ L) (h2 : (a2, p2, t2) ∈ L) (h3 : (a3, p3, t3) ∈ L) :
    Calls Tryz.prog 51 #[.string ⟨op.toArray⟩, .string ⟨st.toArray⟩, .slice (some ⟨k, 0, none⟩) 3 3] w fun e W => e = .returned (nv (nd op st [t1, t2, t3]).op (nd op st [t1, t2, t3]).s (nd op st [t1, t2, t3]).n (some ⟨k, 0, none⟩) (nd op st [t1, t2, t3]).L.length 3) ∧ Cx E B w0 W s H ((some ⟨k, 0, none⟩, 3, nd op st [t1, t2, t3]) :: L) := by
  refine (q_node ⟨op.toArray⟩ ⟨st.toArray⟩ _ 3 3 w).mono ?_
  rintro e W ⟨rfl, hb⟩
  exact ⟨rfl, (hC.keepB hb).tree3 op st 0 h1 h2 h3⟩
end
end Go.Proofs.YtaenpacfbheppaaGreatDoor

namespace Go.Proofs.YtaenpacfbheppaaGreatDoor
open Go.RowKit

theorem TV.same {P : Nat → Prop} {w : World} {ao : Option Addr} {cap : Nat} {t : Tr} (h : TV P w ao cap t) : ∀ {Q : Nat → Prop} {cap' : Nat} {t' : Tr}, TV Q w ao cap' t' → t.L.length = t'.L.length → t.L = t'.L := by
  induction h with
  | leaf op s n =>
    intro Q cap' t' h' hl
    exact (List.length_eq_zero_iff.1 hl.symm).symm
  | row g cap op s n L kids hP hlt h0 hcap hl cells sub ih =>
    intro Q cap' t' h' hlen
    cases h' with
    | row g _ op' s' n' L' kids' hP' hlt' h0' hcap' hl' cells' sub' =>
      show L = L'
      have hlen : L.length = L'.length := hlen
      refine List.ext_getElem hlen fun i h1 h2 => ?_
      have q0 := (cells i h1 0 _ rfl).symm.trans (cells' i h2 0 _ rfl)
      have q1 := (cells i h1 1 _ rfl).symm.trans (cells' i h2 1 _ rfl)
      have q2 := (cells i h1 2 _ rfl).symm.trans (cells' i h2 2 _ rfl)
      have q3 := (cells i h1 3 _ rfl).symm.trans (cells' i h2 3 _ rfl)
      simp only [Option.some.injEq, Value.string.injEq, Value.int.injEq, Value.slice.injEq, ByteArray.mk.injEq, true_and] at q0 q1 q2 q3
      have e0 : L[i].op = L'[i].op := by simpa using q0
      have e1 : L[i].s = L'[i].s := by simpa using q1
      have s2 := sub' i h2
      rw [← q3.1] at s2
      have e3 := ih i h1 s2 q3.2.1
      generalize L[i] = x at *
      generalize L'[i] = y at *
      obtain ⟨a, b, c, d⟩ := x
      obtain ⟨a', b', c', d'⟩ := y
      simp only [Tr.op, Tr.s, Tr.n, Tr.L] at e0 e1 q2 e3
      subst e0 e1 q2 e3
      rfl
abbrev kyV (a : Addr) (n : Nat) : Value := .agg #[.pointer (some a), .int .i64 n]
structure MO (w : World) (mb N : Nat) : Prop where
  hN : N ≤ mb
  ob : ∃ es clock, w.heap[mb]? = some (.map es clock) ∧ ∀ e ∈ es.toList, ∃ (g : Nat) (l : List Tr) (cap : Nat), e.key = kyV ⟨g, 0, none⟩ l.length ∧ e.val = .int .i64 (wdL l) ∧ TV (fun k => k < N) w (some ⟨g, 0, none⟩) cap (ls l)
theorem MO.lt {w : World} {mb N : Nat} (h : MO w mb N) : mb < w.heap.size := by
  obtain ⟨es, clock, e, _⟩ := h.ob
  exact (Array.getElem?_eq_some_iff.1 e).1
theorem MO.keep {w w' : World} {mb N : Nat} (h : MO w mb N) (hm : w'.heap[mb]? = w.heap[mb]?) (hk : ∀ k, k < N → w'.heap[k]? = w.heap[k]?) : MO w' mb N := by
  obtain ⟨es, clock, e, hes⟩ := h.ob
  refine ⟨h.hN, es, clock, hm.trans e, fun x hx => ?_⟩
  obtain ⟨g, l, cap, h1, h2, h3⟩ := hes x hx
  exact ⟨g, l, cap, h1, h2, h3.keep fun k hk' _ => ⟨hk', hk k hk'⟩⟩
theorem TV.cells_ob {P : Nat → Prop} {w : World} {g cap : Nat} {t : Tr} (h : TV P w (some ⟨g, 0, none⟩) cap t) : ∃ ca ta, w.heap[g]? = some (.cells ca ta (0, 0)) := by
  cases h with
  | row g _ op s n L kids hP hlt h0 hcap hl cells sub => exact hlt.2
theorem undK : ∃ fs, Tryz.prog.underlying 67 = some (.struct fs) := by
  have h : (Tryz.prog.underlying 67).map (fun d => match d with | .struct _ => true | _ => false) = some true := by kernel_rfl
  cases hu : Tryz.prog.underlying 67 with
  | none => rw [hu] at h; cases h
  | some d => cases d <;> rw [hu] at h <;> first | exact ⟨_, rfl⟩ | (simp at h)
theorem undM : Tryz.prog.underlying 46 = some (.map 67 3) := by kernel_rfl
theorem key_check (e : Bool) (a : Addr) (n : Int) (w : World) : (Instr.checkKey e 10000 67 (.agg #[.pointer (some a), .int .i64 n])).run Tryz.prog w = .ok () w := by kernel_rfl
theorem undP : ∃ te, Tryz.prog.underlying 65 = some (.pointer te) ∧ ∃ j, Tryz.prog.info? te = some j ∧ j.size ≠ 0 := by
  have h : (Tryz.prog.underlying 65) = some (.pointer 24) := by kernel_rfl
  have h2 := sizN
  cases hi : Tryz.prog.info? 24 with
  | none => rw [hi] at h2; cases h2
  | some j => rw [hi] at h2; exact ⟨_, h, j, hi, by have : j.size = 4 := by simpa using h2
                                                    omega⟩
theorem undI : Tryz.prog.underlying 3 = some (.int .i64) := by kernel_rfl
theorem ptr_eq (w : World) {a b : Addr} {ca cb : Array Value} {ta tb : TypeId} (ha : w.heap[a.block]? = some (.cells ca ta (0, 0))) (hb : w.heap[b.block]? = some (.cells cb tb (0, 0))) (d : Nat) :
    (Op.equalIn (d + 1) 65 (.pointer (some a)) (.pointer (some b))).run Tryz.prog w = .ok (decide (a = b)) w := by
  obtain ⟨te, hp, j, hte, hsz⟩ := undP
  by_cases h : a = b
  · subst h
    simp [Op.equalIn, run_underlying hp, sizeOf, typeInfo, hte, hsz, run_sameAddr_same]
  · simp [Op.equalIn, run_underlying hp, sizeOf, typeInfo, hte, hsz, run_sameAddr_other w h ha hb, h]
theorem key_eq (w : World) {a b : Addr} {ca cb : Array Value} {ta tb : TypeId} (ha : w.heap[a.block]? = some (.cells ca ta (0, 0))) (hb : w.heap[b.block]? = some (.cells cb tb (0, 0))) (m n : Int) :
    (Op.equal 67 (.agg #[.pointer (some a), .int .i64 m]) (.agg #[.pointer (some b), .int .i64 n])).run Tryz.prog w = .ok (decide (a = b) && m == n) w := by
  show (Op.equalIn 10000 _ _ _).run _ w = _
  rw [run_equalIn_agg w 9999 _ _ _ (by kernel_rfl) (by kernel_rfl)]
  have e : ∀ k (xs ys : Array Value), Op.eqFields k xs ys (Tryz.prog.fieldsOf 67).toList = (do
      if !(← Op.equalIn k 65 (← part 65 xs 0) (← part 65 ys 0)) then return false
      if !(← Op.equalIn k 3 (← part 3 xs 1) (← part 3 ys 1)) then return false
      pure true) := fun _ _ _ => by kernel_rfl
  rw [e]
  obtain ⟨te, hp, _⟩ := undP
  have p0 : ∀ (x y : Value) w, (part 65 #[x, y] 0).run Tryz.prog w = .ok x w := fun x y w => by simp [part, isAgg, run_underlying hp]
  have p1 : ∀ (x y : Value) w, (part 3 #[x, y] 1).run Tryz.prog w = .ok y w := fun x y w => by simp [part, isAgg, run_underlying undI]
  have h1 := ptr_eq w ha hb 9998
  have h2 := run_equalIn_int (P := Tryz.prog) w 9998 3 .i64 .i64 m n undI
  cases hd : decide (a = b) <;> cases hm : (m == n) <;> simp [p0, p1, h1, h2, hd, hm]
theorem find_key (w : World) (g : Nat) (n : Nat) (hg : ∃ ca ta, w.heap[g]? = some (.cells ca ta (0, 0))) : ∀ (es : List MapEntry), (∀ e ∈ es, ∃ (g' : Nat) (n' : Nat), e.key = kyV ⟨g', 0, none⟩ n' ∧ ∃ ca ta, w.heap[g']? = some (.cells ca ta (0, 0))) → ∀ i,
    ∃ r, (Instr.findAsking 67 (kyV ⟨g, 0, none⟩ n) es i).run Tryz.prog w = .ok r w ∧ ((r = none ∧ ∀ e ∈ es, e.key ≠ kyV ⟨g, 0, none⟩ n) ∨ ∃ j e, es[j]? = some e ∧ e.key = kyV ⟨g, 0, none⟩ n ∧ r = some (i + j, e.val))
  | [], _, i => ⟨none, rfl, Or.inl ⟨rfl, fun _ h => by cases h⟩⟩
  | e :: es, hes, i => by
    obtain ⟨g', n', hk, ca', ta', hg'⟩ := hes e (.head _)
    obtain ⟨ca, ta, hg0⟩ := hg
    have hq := key_eq w (a := ⟨g, 0, none⟩) (b := ⟨g', 0, none⟩) hg0 hg' n n'
    unfold Instr.findAsking
    rw [hk]
    simp only [Sem.run_bind, hq, Result.andThen_ok]
    cases hd : (decide ((⟨g, 0, none⟩ : Addr) = ⟨g', 0, none⟩) && (n : Int) == (n' : Int)) with
    | true =>
      simp only [Bool.and_eq_true, decide_eq_true_eq, beq_iff_eq] at hd
      obtain ⟨h1, h2⟩ := hd
      have h2 : n = n' := by omega
      cases h1
      subst h2
      exact ⟨some (i, e.val), by simp, Or.inr ⟨0, e, rfl, hk, rfl⟩⟩
    | false =>
      obtain ⟨r, hr, hc⟩ := find_key w g n ⟨ca, ta, hg0⟩ es (fun x hx => hes x (.tail _ hx)) (i + 1)
      refine ⟨r, by simpa using hr, ?_⟩
      rcases hc with ⟨h1, h2⟩ | ⟨j, x, h1, h2, h3⟩
      · refine Or.inl ⟨h1, fun x hx => ?_⟩
        rcases List.mem_cons.1 hx with rfl | hx
        · rw [hk]
          intro ee
          simp only [kyV, Value.agg.injEq, Array.mk.injEq, List.cons.injEq, Value.pointer.injEq, Option.some.injEq, Value.int.injEq, true_and, and_true] at ee
          rw [← ee.1, ee.2] at hd
          simp at hd
        · exact h2 x hx
      · exact Or.inr ⟨j + 1, x, by simpa using h1, h2, by rw [h3]; congr 2; omega⟩
theorem get_map {w : World} {r : Nat} {es : Array MapEntry} {clock : Nat} (hb : w.heap[r]? = some (.map es clock)) : (getObj r).run Tryz.prog w = .ok (.map es clock) w := by simp [getObj, Sem.run, hb]
theorem set_map {w : World} {r : Nat} {es : Array MapEntry} {clock : Nat} (o : Obj) (hb : w.heap[r]? = some (.map es clock)) : (setObj r o).run Tryz.prog w = .ok () { w with heap := w.heap.setIfInBounds r o } := by simp [setObj, Sem.run, hb]
theorem findKey_run (w : World) (key : Value) (es : List MapEntry) : (Instr.findKey 67 key es).run Tryz.prog w = (Instr.findAsking 67 key es).run Tryz.prog w := by
  obtain ⟨fs, hu⟩ := undK
  unfold Instr.findKey
  simp only [Sem.run_bind, run_underlying hu, Result.andThen_ok]
  cases es with
  | nil => rfl
  | cons e es => rfl
theorem zero_int (w : World) : (zeroValue 3).run Tryz.prog w = .ok (.int .i64 0) w := by kernel_rfl
theorem askable {w : World} {N : Nat} {es : Array MapEntry} (h : ∀ e ∈ es.toList, ∃ (g : Nat) (l : List Tr) (cap : Nat), e.key = kyV ⟨g, 0, none⟩ l.length ∧ e.val = .int .i64 (wdL l) ∧ TV (fun k => k < N) w (some ⟨g, 0, none⟩) cap (ls l)) :
    ∀ e ∈ es.toList, ∃ (g' : Nat) (n' : Nat), e.key = kyV ⟨g', 0, none⟩ n' ∧ ∃ ca ta, w.heap[g']? = some (.cells ca ta (0, 0)) := fun e he => by
  obtain ⟨g, l, cap, h1, _, h3⟩ := h e he
  exact ⟨g, l.length, h1, h3.cells_ob⟩
theorem kyV_inj {g g' n n' : Nat} (h : kyV ⟨g, 0, none⟩ n = kyV ⟨g', 0, none⟩ n') : g = g' ∧ n = n' := by
  simp only [kyV, Value.agg.injEq, Array.mk.injEq, List.cons.injEq, Value.pointer.injEq, Option.some.injEq, Value.int.injEq, true_and, and_true, Addr.mk.injEq] at h
  exact ⟨h.1, by omega⟩
theorem MO.look {w : World} {mb N : Nat} (h : MO w mb N) {g cap : Nat} {l : List Tr} (hl : TV (fun k => k < N) w (some ⟨g, 0, none⟩) cap (ls l)) :
    ∃ v ok, (Instr.lookup 46 (.map (some mb)) (kyV ⟨g, 0, none⟩ l.length) true).run Tryz.prog w = .ok (.tuple #[.int .i64 v, .bool ok]) w ∧ (ok = true → v = wdL l) := by
  obtain ⟨es, clock, hb, hes⟩ := h.ob
  obtain ⟨r, hr, hc⟩ := find_key w g l.length hl.cells_ob es.toList (askable hes) 0
  have hck := key_check es.isEmpty ⟨g, 0, none⟩ l.length w
  rcases hc with ⟨rfl, _⟩ | ⟨j, e, h1, h2, rfl⟩
  · refine ⟨0, false, ?_, fun h => by cases h⟩
    unfold Instr.lookup
    simp only [Sem.run_bind, run_underlying undM, get_map hb, hck, findKey_run, hr, zero_int, Result.andThen_ok, Sem.run_pure, reduceIte]
  · obtain ⟨g', l', cap', q1, q2, q3⟩ := hes e (List.mem_of_getElem? h1)
    obtain ⟨rfl, hn⟩ := kyV_inj (h2.symm.trans q1)
    have e3 := hl.same q3 hn
    refine ⟨wdL l, true, ?_, fun _ => rfl⟩
    have e4 : e.val = .int .i64 (wdL l) := by rw [q2]; exact congrArg (fun x => Value.int .i64 (wdL x)) e3.symm
    unfold Instr.lookup
    simp only [Sem.run_bind, run_underlying undM, get_map hb, hck, findKey_run, hr, e4, Result.andThen_ok, Sem.run_pure, reduceIte]
theorem sameBits_key (n : Nat) (g m : Nat) : Instr.sameBits (n + 2) (kyV ⟨g, 0, none⟩ m) (kyV ⟨g, 0, none⟩ m) = true := by
  simp [Instr.sameBits, kyV]
theorem MO.note {w : World} {mb N : Nat} (h : MO w mb N) {g cap : Nat} {l : List Tr} (hl : TV (fun k => k < N) w (some ⟨g, 0, none⟩) cap (ls l)) :
    ∃ w', (Instr.mapUpdate 46 (.map (some mb)) (kyV ⟨g, 0, none⟩ l.length) (.int .i64 (wdL l))).run Tryz.prog w = .ok () w' ∧ MO w' mb N ∧ Fr w w' (fun i => i = mb) ∧ w'.heap.size = w.heap.size := by
  obtain ⟨es, clock, hb, hes⟩ := h.ob
  obtain ⟨r, hr, hc⟩ := find_key w g l.length hl.cells_ob es.toList (askable hes) 0
  have hck := key_check false ⟨g, 0, none⟩ l.length w
  have hlt : mb < w.heap.size := h.lt
  have oth : ∀ (o : Obj) k, k ≠ mb → ({ w with heap := w.heap.setIfInBounds mb o } : World).heap[k]? = w.heap[k]? := fun o k hk => by
    show (w.heap.setIfInBounds mb o)[k]? = _
    rw [Array.getElem?_setIfInBounds_ne (by omega)]
  have new : ∀ (o : Obj), ({ w with heap := w.heap.setIfInBounds mb o } : World).heap[mb]? = some o := fun o => by
    show (w.heap.setIfInBounds mb o)[mb]? = _
    rw [Array.getElem?_setIfInBounds_self_of_lt hlt]
  have fr : ∀ (o : Obj), Fr w { w with heap := w.heap.setIfInBounds mb o } (fun i => i = mb) := fun o => ⟨rfl, rfl, rfl, by simp, fun k hk hn => oth o k hn⟩
  have hN := h.hN
  have tv : ∀ (o : Obj) {g : Nat} {cap : Nat} {l : List Tr}, TV (fun k => k < N) w (some ⟨g, 0, none⟩) cap (ls l) → TV (fun k => k < N) { w with heap := w.heap.setIfInBounds mb o } (some ⟨g, 0, none⟩) cap (ls l) := fun o _ _ _ ht => ht.keep fun k hk _ => ⟨hk, oth o k (by omega)⟩
  rcases hc with ⟨rfl, _⟩ | ⟨j, e, h1, h2, rfl⟩
  · refine ⟨_, ?_, ⟨hN, _, _, new (.map (es.push { key := kyV ⟨g, 0, none⟩ l.length, val := .int .i64 (wdL l), born := clock }) (clock + 1)), ?_⟩, fr _, by simp⟩
    · unfold Instr.mapUpdate
      simp only [Sem.run_bind, run_underlying undM, get_map hb, hck, findKey_run, hr, Result.andThen_ok]
      exact set_map _ hb
    · intro x hx
      rw [Array.toList_push, List.mem_append, List.mem_singleton] at hx
      rcases hx with hx | rfl
      · obtain ⟨g', l', cap', q1, q2, q3⟩ := hes x hx
        exact ⟨g', l', cap', q1, q2, tv _ q3⟩
      · exact ⟨g, l, cap, rfl, rfl, tv _ hl⟩
  · have hj : es[j]? = some e := by rw [← Array.getElem?_toList]; exact h1
    refine ⟨_, ?_, ⟨hN, _, _, new (.map (es.modify j fun e => { e with key := kyV ⟨g, 0, none⟩ l.length, val := .int .i64 (wdL l) }) clock), ?_⟩, fr _, by simp⟩
    · unfold Instr.mapUpdate
      simp only [Sem.run_bind, run_underlying undM, get_map hb, hck, findKey_run, hr, Result.andThen_ok, Nat.zero_add, hj, Option.map_some, Option.getD_some, Instr.keyThatStays, h2, sameBits_key 9998, if_true, Sem.run_pure]
      exact set_map _ hb
    · intro x hx
      obtain ⟨i, hi, ei⟩ := List.mem_iff_getElem.1 hx
      rw [Array.getElem_toList, Array.getElem_modify] at ei
      split at ei
      · subst ei
        exact ⟨g, l, cap, rfl, rfl, tv _ hl⟩
      · subst ei
        obtain ⟨g', l', cap', q1, q2, q3⟩ := hes _ (Array.getElem_mem_toList (by simpa using hi))
        exact ⟨g', l', cap', q1, q2, tv _ q3⟩
end Go.Proofs.YtaenpacfbheppaaGreatDoor

namespace Go.Proofs.YtaenpacfbheppaaGreatDoor
open Go.RowKit

section
variable {w : World} {mb N : Nat} {a : Act} {K : Act → World → Prop} {Q : Exit → Act → World → Prop} {o : Oper} {ops : Array Oper} {rest : List Oper}
theorem wl_look {g cap : Nat} {l : List Tr} {x y : Operand} (hM : MO w mb N) (hl : TV (fun k => k < N) w (some ⟨g, 0, none⟩) cap (ls l)) (hgd : o.guard = none) (ho : o.op = .lookup 46 x y true) (hx : a.eval x = .map (some mb)) (hy : a.eval y = kyV ⟨g, 0, none⟩ l.length)
    (h : ∀ v ok, (ok = true → v = wdL l) → wpList Tryz.prog ops Q rest (a.put o.dst (.tuple #[.int .i64 v, .bool ok])) w) : wpList Tryz.prog ops Q (o :: rest) a w := by
  obtain ⟨v, ok, hr, hv⟩ := hM.look hl
  refine wpList_plain hgd fun K hK => ?_
  unfold Oper.wp execOp
  simp only [ho, hx, hy, Sem.run_bind, hr, Result.andThen_ok, Sem.run_pure]
  exact hK _ _ (h v ok hv)
theorem wl_note {g cap : Nat} {l : List Tr} {x y z : Operand} (hM : MO w mb N) (hl : TV (fun k => k < N) w (some ⟨g, 0, none⟩) cap (ls l)) (hgd : o.guard = none) (ho : o.op = .mapUpdate 46 x y z) (hx : a.eval x = .map (some mb)) (hy : a.eval y = kyV ⟨g, 0, none⟩ l.length) (hz : a.eval z = .int .i64 (wdL l))
    (h : ∀ W, MO W mb N → Fr w W (fun i => i = mb) → wpList Tryz.prog ops Q rest (a.put o.dst undef) W) : wpList Tryz.prog ops Q (o :: rest) a w := by
  obtain ⟨W, hr, h1, h2, _⟩ := hM.note hl
  refine wpList_plain hgd fun K hK => ?_
  unfold Oper.wp execOp
  simp only [ho, hx, hy, hz, Sem.run_bind, hr, Result.andThen_ok, Sem.run_pure]
  exact hK _ _ (h W h1 h2)
end
theorem sizeOf_kid {l : List Tr} {i : Nat} (h : i < l.length) : SizeOf.sizeOf l[i].L < SizeOf.sizeOf l := by
  have h1 := List.sizeOf_lt_of_mem (List.getElem_mem h)
  have h2 : SizeOf.sizeOf l[i].L < SizeOf.sizeOf l[i] := by
    cases l[i] with
    | mk o s n L => simp only [Tr.L, Tr.mk.sizeOf_spec]; omega
  omega
theorem wdL_app : ∀ (l : List Tr) (t : Tr), wdL (l ++ [t]) = max (wdL l) t.wd
  | [], t => by simp only [List.nil_append, wdL]; omega
  | x :: l, t => by simp only [List.cons_append, wdL, wdL_app l t]; omega
theorem wdL_take {l : List Tr} {i : Nat} (h : i < l.length) : wdL (l.take (i + 1)) = max (wdL (l.take i)) (IntKind.i64.wrap (1 + wdL l[i].L)) := by
  rw [List.take_add_one, List.getElem?_eq_getElem h, Option.toList_some, wdL_app]
  congr 1
  cases l[i] with
  | mk o s n L => rfl
theorem wrap_rg (x : Int) : -9223372036854775808 ≤ IntKind.i64.wrap x ∧ IntKind.i64.wrap x ≤ 9223372036854775807 := by
  rw [IntKind.wrap_i64]; omega
theorem Tr.wd_eq (t : Tr) : t.wd = IntKind.i64.wrap (1 + wdL t.L) := by cases t; rfl
theorem wdL_rg : ∀ (l : List Tr), 0 ≤ wdL l ∧ wdL l ≤ 9223372036854775807
  | [] => by simp [wdL]
  | t :: l => by
    have h1 := wdL_rg l
    have h2 := wrap_rg (1 + wdL t.L)
    rw [← Tr.wd_eq] at h2
    simp only [wdL]; omega
theorem TV.kid {N : Nat} {w : World} {g cap : Nat} {l : List Tr} (h : TV (fun k => k < N) w (some ⟨g, 0, none⟩) cap (ls l)) {i : Nat} (hi : i < l.length) : l.length ≤ cap ∧ ∃ ao c, w.rangeAt g (i * 4) (ncs ao c l[i]) ∧ TV (fun k => k < N) w ao c (ls l[i].L) := by
  cases h with
  | row g _ op s n L kids hP hlt h0 hcap hl cells sub => exact ⟨hcap.1, _, _, cells i hi, (sub i hi).root [] [] 0⟩
theorem TV.at0 {P : Nat → Prop} {w : World} {ao : Option Addr} {cap : Nat} {l : List Tr} (h : TV P w ao cap (ls l)) (h0 : 0 < l.length) : ∃ g, ao = some ⟨g, 0, none⟩ ∧ l.length ≤ cap ∧ cap ≤ maxLen := by
  generalize ht : ls l = t at h
  cases h with
  | leaf op s n => cases ht; simp at h0
  | row g cap op s n L kids hP hlt h0 hcap hl cells sub => cases ht; exact ⟨g, rfl, hcap⟩
theorem TV.gblock {P : Nat → Prop} {w : World} {g cap : Nat} {t : Tr} (h : TV P w (some ⟨g, 0, none⟩) cap t) : P g ∧ g < w.heap.size := by
  cases h with
  | row g _ op s n L kids hP hlt h0 hcap hl cells sub => exact ⟨hP, hlt.1⟩
theorem q_deepest {mb N : Nat} : ∀ (m : Nat) {w : World} {ao : Option Addr} {cap : Nat} {l : List Tr}, SizeOf.sizeOf l < m → TV (fun k => k < N) w ao cap (ls l) → MO w mb N → N ≤ w.heap.size →
    Calls Tryz.prog 16 #[.slice ao l.length cap, .map (some mb)] w fun e w' => e = .returned (.int .i64 (wdL l)) ∧ Fr w w' (fun i => i = mb) ∧ MO w' mb N
  | 0, _, _, _, _, h, _, _, _ => absurd h (by omega)
  | m + 1, w, ao, cap, l, hm, hT, hM, hN => by
    have IH := @q_deepest mb N m
    have hmb := hM.lt
    by_cases h0 : l = []
    · subst h0
      have HM := hidk hM
      clear hM hT
      go_enter Tryz.func16, Tryz.ntmps16
      go_wp2_with fail
      go_ret
      exact ⟨rfl, Fr.refl _ _, HM.out⟩
    · have hpos : 0 < l.length := List.length_pos_iff.2 h0
      obtain ⟨g, rfl, hbd⟩ := hT.at0 hpos
      have hne : ((l.length : Int) == 0) = false := by rw [beq_eq_false_iff_ne]; omega
      have hg := hT.gblock
      have HT : ∀ W, (∀ k, k < N → W.heap[k]? = w.heap[k]?) → TV (fun k => k < N) W (some ⟨g, 0, none⟩) cap (ls l) := fun W hW => hT.keep fun k hk _ => ⟨hk, hW k hk⟩
      have HTH := hidk HT
      have HMH := hidk hM
      have tge : (0 : Int) < (l.length : Int) := by omega
      obtain ⟨W1, hW1⟩ : ∃ W1, w.alloc (.cells #[.pointer (some ⟨g, 0, none⟩), .int .i64 l.length] 67) = W1 := ⟨_, rfl⟩
      have old : ∀ k, k < w.heap.size → W1.heap[k]? = w.heap[k]? := fun k hk => by rw [← hW1]; exact Below.heap_alloc _ _ _ hk
      have hnew : W1.heap[w.heap.size]? = some (.cells #[.pointer (some ⟨g, 0, none⟩), .int .i64 l.length] 67 (0, 0)) := by rw [← hW1]; exact heap_alloc_new w _
      have b0 : W1.cell? ⟨w.heap.size, 0, none⟩ = some (.pointer (some ⟨g, 0, none⟩)) := by rw [cell_of_row W1 _ 0 _ _ _ hnew]; rfl
      have b1 : W1.cell? ⟨w.heap.size, 1, none⟩ = some (.int .i64 l.length) := by rw [cell_of_row W1 _ 1 _ _ _ hnew]; rfl
      have hs1 : W1.heap.size = w.heap.size + 1 := by rw [← hW1]; simp
      have HF1 : Hid (Fr w W1 (fun i => i = mb)) := by rw [← hW1]; exact Fr.alloc _ _ _
      have HM1 : Hid (MO W1 mb N) := hM.keep (old _ hmb) (fun k hk => old k (by omega))
      have HT1 : Hid (TV (fun k => k < N) W1 (some ⟨g, 0, none⟩) cap (ls l)) := HT W1 (fun k hk => old k (by omega))
      clear HT hM hT old HMH
      go_enter Tryz.func16, Tryz.ntmps16
      go_wp2_with (first
      | (guard_target = wpList _ _ _ (Oper.mk _ (Op.lookup _ _ _ _) _ _ _ _ :: _) _ _; (try rw [hW1]); refine wl_look HM1.out HT1.out (by rfl) (by rfl) (by rfl) (by rfl) ?_; intro v ok hv; (try simp only [pP]); cases ok))
      · have hkb : mb < w.heap.size := hmb
        go_loopw [8, 29] (fun d i wr => ∃ k : Nat, i = .int .i64 k ∧ k ≤ l.length ∧ d = .int .i64 (wdL (l.take k)) ∧ Hid (Fr W1 wr (fun i => i = mb)) ∧ Hid (MO wr mb N)) (fun d i _ => l.length - (intOf i).toNat)
        case atStart => exact ⟨0, rfl, Nat.zero_le _, by simp [wdL], Fr.refl _ _, HM1⟩
        case round =>
          rename World => wr
          obtain ⟨k, rfl, hk, rfl, HF, HM⟩ := hrel
          have hsz := HF.out.size
          have hbox : wr.heap[w.heap.size]? = some (.cells #[.pointer (some ⟨g, 0, none⟩), .int .i64 l.length] 67 (0, 0)) := (HF.out.block _ (by omega) (by omega)).trans hnew
          have HTr : Hid (TV (fun k => k < N) wr (some ⟨g, 0, none⟩) cap (ls l)) := HT1.out.keep fun k hk _ => ⟨hk, HF.out.block k (by omega) (by have := HM1.out.hN; omega)⟩
          by_cases hlt : k < l.length
          · obtain ⟨_, ao', c', hrg, hsub⟩ := HTr.out.kid hlt
            have c0 : wr.cell? ⟨g, k * 4, none⟩ = some (.string ⟨l[k].op.toArray⟩) := hrg 0 _ rfl
            have c1 : wr.cell? ⟨g, k * 4 + 1, none⟩ = some (.string ⟨l[k].s.toArray⟩) := hrg 1 _ rfl
            have c2 : wr.cell? ⟨g, k * 4 + 2, none⟩ = some (.int .i64 l[k].n) := hrg 2 _ rfl
            have c3 : wr.cell? ⟨g, k * 4 + 3, none⟩ = some (.slice ao' l[k].L.length c') := hrg 3 _ rfl
            have tlt : (k : Int) < (l.length : Int) := by omega
            have tge : (0 : Int) ≤ (k : Int) := by omega
            have HS := hidk hsub
            have hmx := wdL_take hlt
            have hsm := sizeOf_kid hlt
            have HK : Hid (∀ W, (∀ j, j < wr.heap.size → W.heap[j]? = wr.heap[j]?) → wr.heap.size ≤ W.heap.size → Calls Tryz.prog 16 #[.slice ao' l[k].L.length c', .map (some mb)] W fun e w' => e = .returned (.int .i64 (wdL l[k].L)) ∧ Fr W w' (fun i => i = mb) ∧ MO w' mb N) := fun W hW hW2 =>
              IH (by omega) (hsub.keep fun j hj hjl => ⟨hj, hW j hjl⟩) (HM.out.keep (hW _ HM.out.lt) (fun j hj => hW j (by have := HM.out.lt; have := HM.out.hN; omega))) (by omega)
            generalize l[k].op = kop at *
            generalize l[k].s = ks at *
            generalize l[k].n = kn at *
            generalize l[k].L = kl at *
            clear hrg hsub hsm
            have hbd2 : l.length ≤ 9223372036854775807 := by have := hbd.1; have := hbd.2; unfold maxLen at this; omega
            go_wp2_with (first
            | (go_at_call 16; refine (HK.out _ (fun j hj => Below.heap_alloc _ _ _ hj) (by simp)).mono ?_; rintro e W2 ⟨rfl, hF2, hM2⟩))
            have hw : wrap64 ((k : Int) + 1) = (k : Int) + 1 := by unfold wrap64; omega
            have hw2 : wrap64 (1 + wdL kl) = IntKind.i64.wrap (1 + wdL kl) := by unfold wrap64; rw [IntKind.wrap_i64]
            have HW := hidk hw
            have HW2 := hidk hw2
            clear hw hw2
            go_roundw
            case rel => exact ⟨k + 1, by simp, by omega, by rw [hmx, HW2.out], ((HF.out.trans (Fr.alloc wr _ _) (fun _ h => Or.inl h)).trans hF2 (fun _ h => Or.inl h)), hM2⟩
            case measure => simp [intOf]; omega
          · obtain rfl : k = l.length := by omega
            rw [List.take_length]
            have tlt : ¬ (l.length : Int) < (l.length : Int) := by omega
            have e0 : wr.cell? ⟨w.heap.size, 0, none⟩ = some (.pointer (some ⟨g, 0, none⟩)) := by rw [cell_of_row wr _ 0 _ _ _ hbox]; rfl
            have e1 : wr.cell? ⟨w.heap.size, 1, none⟩ = some (.int .i64 l.length) := by rw [cell_of_row wr _ 1 _ _ _ hbox]; rfl
            go_wp2_with (first
            | (guard_target = wpList _ _ _ (Oper.mk _ (Op.mapUpdate _ _ _ _) _ _ _ _ :: _) _ _; refine wl_note HM.out HTr.out (by rfl) (by rfl) (by rfl) (by rfl) (by rfl) ?_; intro W2 hM2 hF2; (try simp only [pP])))
            go_ret
            exact ⟨rfl, (HF1.out.trans HF.out (fun _ h => Or.inl h)).trans hF2 (fun _ h => Or.inl h), hM2⟩
      · go_ret
        exact ⟨rfl, HF1.out, HM1.out⟩
theorem q_depth {P : Nat → Prop} {w : World} {ao : Option Addr} {cap : Nat} {t : Tr} (hT : TV P w ao cap t) :
    Calls Tryz.prog 8 #[nv t.op t.s t.n ao t.L.length cap] w fun e w' => e = .returned (.int .i64 t.wd) ∧ Below w.heap.size w w' := by
  have h0 : TV (fun k => k < w.heap.size) w ao cap (ls t.L) := (hT.keep fun k _ hk => ⟨hk, rfl⟩).root [] [] 0
  have HK : Hid (∀ W mb, (∀ k, k < w.heap.size → W.heap[k]? = w.heap[k]?) → w.heap.size ≤ mb → W.heap[mb]? = some (.map #[] 0) → Calls Tryz.prog 16 #[.slice ao t.L.length cap, .map (some mb)] W fun e w' => e = .returned (.int .i64 (wdL t.L)) ∧ Fr W w' (fun i => i = mb)) := fun W mb hW hmb hm => by
    refine (q_deepest (N := w.heap.size) (mb := mb) (SizeOf.sizeOf t.L + 1) (by omega) (h0.keep fun k hk _ => ⟨hk, hW k hk⟩) ⟨hmb, #[], 0, hm, fun e he => by simp at he⟩ ?_).mono ?_
    · have := (Array.getElem?_eq_some_iff.1 hm).1; omega
    · rintro e W' ⟨h1, h2, _⟩; exact ⟨h1, h2⟩
  have hwd : t.wd = wrap64 (1 + wdL t.L) := by rw [Tr.wd_eq]; unfold wrap64; rw [IntKind.wrap_i64]
  have HWD := hidk hwd
  clear hT h0 hwd
  have hmk : ∀ W, (Instr.makeMap 46 none).run Tryz.prog W = .ok (.map (some W.heap.size)) (W.alloc (.map #[] 0)) := fun W => run_makeMap _ _
  obtain ⟨top, ts, tn, tL⟩ := t
  simp only [Tr.op, Tr.s, Tr.n, Tr.L] at *
  have hw2 : ∀ o : Obj, (∀ k, k < w.heap.size → ((w.alloc o).alloc (.map #[] 0)).heap[k]? = w.heap[k]?) ∧ ((w.alloc o).alloc (.map #[] 0)).heap[w.heap.size + 1]? = some (.map #[] 0) := fun o =>
    ⟨fun k hk => (Below.heap_alloc _ _ _ (by simp; omega)).trans (Below.heap_alloc _ _ _ hk), by have h := heap_alloc_new (w.alloc o) (.map #[] 0); simpa using h⟩
  have HK2 : Hid (∀ o : Obj, Calls Tryz.prog 16 #[.slice ao tL.length cap, .map (some (w.heap.size + 1))] ((w.alloc o).alloc (.map #[] 0)) fun e w' => e = .returned (.int .i64 (wdL tL)) ∧ Fr ((w.alloc o).alloc (.map #[] 0)) w' (fun i => i = w.heap.size + 1)) := fun o => HK.out _ _ (hw2 o).1 (by omega) (hw2 o).2
  clear HK hw2
  go_enter Tryz.func8, Tryz.ntmps8
  go_wp2_with (first
  | (go_at_call 16; (try rw [show (w.alloc _).heap.size = w.heap.size + 1 by simp]); refine Calls.mono (HK2.out _) ?_; rintro e W2 ⟨rfl, hF2⟩))
  go_ret
  refine ⟨?_, ?_⟩
  · show Ending.returned (.int .i64 (wrap64 (1 + wdL tL))) = _
    rw [← HWD.out]
  · refine Below.trans ?_ (hF2.below (B := w.heap.size) (by simp; omega) (fun k hk => by subst hk; simp))
    exact ((Below.refl _ _).alloc (Nat.le_refl _) _).alloc (by simp) _
end Go.Proofs.YtaenpacfbheppaaGreatDoor

namespace Go.Proofs.YtaenpacfbheppaaGreatDoor
open Go.RowKit
theorem oneF_le {kd : Int} {of : List (List UInt8)} {ts r : List Tok} {x : List UInt8} (h : oneF kd of ts = some (x, r)) : r.length < ts.length := by have := oneF_len h; omega
theorem needF_lt {ws : List (List UInt8)} {ts r : List Tok} (h : needF ws ts = some r) (h0 : 0 < ws.length) : r.length < ts.length := by have := needF_len h; omega
theorem needF_le {ws : List (List UInt8)} {ts r : List Tok} (h : needF ws ts = some r) : r.length ≤ ts.length := by have := needF_len h; omega
theorem nameF_le {ts r : List Tok} {x : List UInt8} (h : nameF ts = some (x, r)) : r.length < ts.length := by have := nameF_len h; omega
theorem Cx.rc {E : Env} {B : Nat} {w0 w : World} {H : List Bx} {L : List Tn} {f : Func} {slot k TT : Nat} {a : Act} {R : Ending → World → Prop} {s : Stt} {c0 c1 c2 c3 : Value} (hC : Cx E B w0 w s H L) (h : R (.returned (.agg #[c0, c1, c2, c3])) w) (hr : f.results = #[.cell slot 24] := by rfl) (hs : a.tmps.getD slot undef = .pointer (some ⟨k, 0, none⟩) := by rfl) (hd : a.defers = [] := by rfl) (hm : (k, [c0, c1, c2, c3], TT) ∈ H := by repeat (first | exact List.mem_cons_self | apply List.mem_cons_of_mem)) : bodyPost Tryz.prog f R .ret a w := by
  obtain ⟨i, hi, e⟩ := List.mem_iff_getElem.1 hm
  exact ret_cell hr hs hd hC i (by rw [List.getElem?_eq_getElem hi, e]) h
theorem Cx.rcB {E : Env} {B : Nat} {w0 w : World} {H : List Bx} {L : List Tn} {f : Func} {slot sl2 k TT : Nat} {a : Act} {R : Ending → World → Prop} {s : Stt} {v c0 c1 c2 c3 : Value} (hC : Cx E B w0 w s H L) (h : R (.returned (.tuple #[.agg #[c0, c1, c2, c3], v])) w) (hr : f.results = #[.cell slot 24, .tmp sl2] := by rfl) (hs : a.tmps.getD slot undef = .pointer (some ⟨k, 0, none⟩) := by rfl) (h2 : a.tmps.getD sl2 undef = v := by rfl) (hd : a.defers = [] := by rfl) (hm : (k, [c0, c1, c2, c3], TT) ∈ H := by repeat (first | exact List.mem_cons_self | apply List.mem_cons_of_mem)) : bodyPost Tryz.prog f R .ret a w := by
  obtain ⟨i, hi, e⟩ := List.mem_iff_getElem.1 hm
  exact ret_cellB hr hs h2 hd hC i (by rw [List.getElem?_eq_getElem hi, e]) h
theorem q_need1 {E : Env} {B : Nat} {w0 w : World} {ts : List Tok} {H : List Bx} {L : List Tn} {kb : Nat} (u1 : List UInt8) (hC : Cx E B w0 w (.p ts) ((kb, [.string ⟨u1.toArray⟩], 9) :: H) L) :
    Calls Tryz.prog 87 #[.pointer (some ⟨E.b, 0, none⟩), .slice (some ⟨kb, 0, none⟩) 1 1] w ((oU (needF [u1] ts)).P E B w0 H L) := by
  obtain ⟨o, ho⟩ : ∃ o, needF [u1] ts = o := ⟨_, rfl⟩
  rw [ho]
  unfold needF at ho
  have HO := hidk ho
  clear ho
  go_enter Tryz.func87, Tryz.ntmps87
  go_wp2_with (first
  | (go_at_call 50; have hD := hC; clear hC; (first | guard_target = Calls _ _ #[_, Value.slice (some _) 1 1] _ _; refine useB (q_took1 _ hD) ?_ ?_); (focus (intro hb W hC; clear hD; (try simp only [hb, reduceIte, pB] at HO); (try have hl := tkR_ls hb (by simp)); clear hb)); rotate_left; (focus (intro hb W hC; clear hD; (try simp only [tkR_no hb] at HO hC); (try simp only [hb, reduceIte, pB] at HO); clear hb))))
  all_goals first | exact ⟨rfl, stopU HO hC.mv⟩ | (refine bodyPost_end (results_none rfl _ _ _) rfl ?_; exact endU HO (hC.fin0 mSub mL)) | (refine bodyPost_ret (results_none rfl _ _ _) rfl ?_; exact endU HO (hC.fin0 mSub mL))
theorem q_need2 {E : Env} {B : Nat} {w0 w : World} {ts : List Tok} {H : List Bx} {L : List Tn} {kb : Nat} (u1 u2 : List UInt8) (hC : Cx E B w0 w (.p ts) ((kb, [.string ⟨u1.toArray⟩, .string ⟨u2.toArray⟩], 9) :: H) L) :
    Calls Tryz.prog 87 #[.pointer (some ⟨E.b, 0, none⟩), .slice (some ⟨kb, 0, none⟩) 2 2] w ((oU (needF [u1, u2] ts)).P E B w0 H L) := by
  obtain ⟨o, ho⟩ : ∃ o, needF [u1, u2] ts = o := ⟨_, rfl⟩
  rw [ho]
  unfold needF at ho
  have HO := hidk ho
  clear ho
  go_enter Tryz.func87, Tryz.ntmps87
  go_wp2_with (first
  | (go_at_call 50; have hD := hC; clear hC; (first | guard_target = Calls _ _ #[_, Value.slice (some _) 2 2] _ _; refine useB (q_took2 _ _ hD) ?_ ?_); (focus (intro hb W hC; clear hD; (try simp only [hb, reduceIte, pB] at HO); (try have hl := tkR_ls hb (by simp)); clear hb)); rotate_left; (focus (intro hb W hC; clear hD; (try simp only [tkR_no hb] at HO hC); (try simp only [hb, reduceIte, pB] at HO); clear hb))))
  all_goals first | exact ⟨rfl, stopU HO hC.mv⟩ | (refine bodyPost_end (results_none rfl _ _ _) rfl ?_; exact endU HO (hC.fin0 mSub mL)) | (refine bodyPost_ret (results_none rfl _ _ _) rfl ?_; exact endU HO (hC.fin0 mSub mL))
end Go.Proofs.YtaenpacfbheppaaGreatDoor

namespace Go.Proofs.YtaenpacfbheppaaGreatDoor
open Go.RowKit

def tokV (t : Tok) : Value := .agg #[.int .i64 t.k, .string ⟨t.s.toArray⟩, .int .i64 t.n, .int .i64 t.at_]
def oT : Option (Tok × List Tok) → Out
  | none => .stop
  | some (t, r) => .v (tokV t) (.p r)
def oG : Option (List UInt8 × List Tok) → List Tok → Out
  | none, ts => .v (.bool false) (.p ts)
  | some (_, r), _ => .v (.bool true) (.p r)
def oW : Option (List UInt8 × List Tok) → Out
  | none => .stop
  | some (_, r) => .v (.tuple #[]) (.p r)
section
variable {E : Env} {B : Nat} {w0 w : World} {H : List Bx} {L : List Tn} {f : Nat} {args : Array Value} {R : Ending → World → Prop}
theorem useT {o : Option (Tok × List Tok)} (h : Calls Tryz.prog f args w ((oT o).P E B w0 H L)) (h0 : o = none → ∀ W, Fr w0 W (fun i => i = E.b) → R (.panicked stopP) W)
    (h1 : ∀ t r, o = some (t, r) → ∀ W, Cx E B w0 W (.p r) H L → R (.returned (.agg #[.int .i64 t.k, .string ⟨t.s.toArray⟩, .int .i64 t.n, .int .i64 t.at_])) W) : Calls Tryz.prog f args w R := by
  refine h.mono fun e W hp => ?_
  rcases o with _ | ⟨t, r⟩
  · obtain ⟨rfl, hf⟩ := hp; exact h0 rfl W hf
  · obtain ⟨rfl, hc⟩ := hp; exact h1 t r rfl W hc
theorem useG {o : Option (List UInt8 × List Tok)} {ts : List Tok} (h : Calls Tryz.prog f args w ((oG o ts).P E B w0 H L)) (h0 : o = none → ∀ W, Cx E B w0 W (.p ts) H L → R (.returned (.bool false)) W)
    (h1 : ∀ x r, o = some (x, r) → ∀ W, Cx E B w0 W (.p r) H L → R (.returned (.bool true)) W) : Calls Tryz.prog f args w R := by
  refine h.mono fun e W hp => ?_
  rcases o with _ | ⟨x, r⟩
  · obtain ⟨rfl, hc⟩ := hp; exact h0 rfl W hc
  · obtain ⟨rfl, hc⟩ := hp; exact h1 x r rfl W hc
theorem useW {o : Option (List UInt8 × List Tok)} (h : Calls Tryz.prog f args w ((oW o).P E B w0 H L)) (h0 : o = none → ∀ W, Fr w0 W (fun i => i = E.b) → R (.panicked stopP) W)
    (h1 : ∀ x r, o = some (x, r) → ∀ W, Cx E B w0 W (.p r) H L → R (.returned (.tuple #[])) W) : Calls Tryz.prog f args w R := by
  refine h.mono fun e W hp => ?_
  rcases o with _ | ⟨x, r⟩
  · obtain ⟨rfl, hf⟩ := hp; exact h0 rfl W hf
  · obtain ⟨rfl, hc⟩ := hp; exact h1 x r rfl W hc
end
theorem q_take {E : Env} {B : Nat} {w0 w : World} {ts : List Tok} {H : List Bx} {L : List Tn} (hC : Cx E B w0 w (.p ts) H L) (kd : Int) :
    Calls Tryz.prog 80 #[.pointer (some ⟨E.b, 0, none⟩), .int .i64 kd] w ((oT (takF kd ts)).P E B w0 H L) := by
  have HC := hidk hC
  obtain ⟨i0, ao, cap, hi0, hts, hpc⟩ := hC.pc
  obtain ⟨hv, c0, c1, fz, hcap⟩ := hpc
  have h6 := hC.ok.len
  have hbz := hC.st.lt
  have HB1 : Hid (Below w.heap.size w (w.alloc (.cells #[.int .i64 0, .string ⟨#[]⟩, .int .i64 0, .int .i64 0] 52))) := (Below.refl _ _).alloc (Nat.le_refl _) _
  have z0 : (w.alloc (.cells #[.int .i64 0, .string ⟨#[]⟩, .int .i64 0, .int .i64 0] 52)).heap[w.heap.size]? = some (.cells #[.int .i64 0, .string ⟨#[]⟩, .int .i64 0, .int .i64 0] 52 (0, 0)) := heap_alloc_new w _
  have hK : w.heap.size ≠ E.b := by omega
  cases ts with
  | nil =>
    obtain rfl := drop_nil hi0 hts
    have hHC : Hid (∀ W, Below w.heap.size w W → Fr w0 W (fun i => i = E.b)) := fun W hb => (hC.keepB hb).mv
    have q0 : (w.alloc (.cells #[.int .i64 0, .string ⟨#[]⟩, .int .i64 0, .int .i64 0] 52)).cell? ⟨E.b, 0, none⟩ = some (.slice ao E.l.length cap) := by rw [World.cell?_of_block (Below.heap_alloc _ _ _ hbz)]; exact c0
    have q1 : (w.alloc (.cells #[.int .i64 0, .string ⟨#[]⟩, .int .i64 0, .int .i64 0] 52)).cell? ⟨E.b, 1, none⟩ = some (.int .i64 E.l.length) := by rw [World.cell?_of_block (Below.heap_alloc _ _ _ hbz)]; exact c1
    have hd : ((E.l.length : Int) == (E.l.length : Int)) = true := by simp
    clear hv hC hts z0
    go_enter Tryz.func80, Tryz.ntmps80
    go_wp2_with fail
    generalize w.alloc (.cells #[.int .i64 0, .string ⟨#[]⟩, .int .i64 0, .int .i64 0] 52) = w1 at *
    go_quiet (fail)
    rename Nat => nq
    have hb1 : Below w.heap.size w (w1.drewN nq) := HB1.out.trans ⟨rfl, rfl, rfl, Nat.le_refl _, fun _ _ => rfl⟩
    go_wp2_with fail
    exact ⟨rfl, rfl, hHC.out _ hb1⟩
  | cons t r =>
    obtain ⟨hlt, ht, hr⟩ := drop_cons hts
    obtain ⟨g, cap', hv', hcap', t0, t1, t2, t3⟩ := hC.tok (ts := t :: r) hlt
    rw [ht] at t0 t1 t2 t3
    rw [hv] at hv'
    cases hv'
    have hgz := (hC.st.row.lo g (by rw [hv]; rfl)).2
    have hgb : g ≠ E.b := fun e => hC.ok.own (by rw [hv, ← e]; rfl)
    have hne : ((i0 : Int) == (E.l.length : Int)) = false := by rw [beq_eq_false_iff_ne]; omega
    have tlt : (i0 : Int) < (E.l.length : Int) := by omega
    have tge : (0 : Int) ≤ (i0 : Int) := by omega
    have hbx := hC.alloc [.int .i64 0, .string ⟨#[]⟩, .int .i64 0, .int .i64 0] 52
    have HM : Hid (∀ W, Below (w.heap.size + 1) (w.alloc (.cells #[.int .i64 0, .string ⟨#[]⟩, .int .i64 0, .int .i64 0] 52)) W → Cx E B w0 (W.setCell ⟨E.b, 1, none⟩ (.int .i64 ((i0 : Int) + 1))) (.p r) ((w.heap.size, [.int .i64 0, .string ⟨#[]⟩, .int .i64 0, .int .i64 0], 52) :: H) L) := fun W hb => by
      have := (hbx.keepB (by simpa using hb)).move (j := i0 + 1) (by omega)
      rw [hr] at this
      exact this
    clear hbx
    have hHC : Hid (∀ W, Below w.heap.size w W → Fr w0 W (fun i => i = E.b)) := fun W hb => (hC.keepB hb).mv
    have hF : takF kd (t :: r) = if t.k == kd then some (t, r) else none := rfl
    have HAF : Hid (∀ W, Below w.heap.size w W → W.cell? ⟨E.b, 0, none⟩ = some (.slice (some ⟨g, 0, none⟩) E.l.length cap) ∧ W.cell? ⟨E.b, 1, none⟩ = some (.int .i64 i0) ∧ W.frozen? ⟨E.b, 1, none⟩ = false ∧ W.cell? ⟨g, i0 * 4, none⟩ = some (.int .i64 t.k) ∧ W.cell? ⟨g, i0 * 4 + 1, none⟩ = some (.string ⟨t.s.toArray⟩) ∧ W.cell? ⟨g, i0 * 4 + 2, none⟩ = some (.int .i64 t.n) ∧ W.cell? ⟨g, i0 * 4 + 3, none⟩ = some (.int .i64 t.at_)) := fun W hb =>
      ⟨(hb.cell (p := ⟨E.b, 0, none⟩) hbz).trans c0, (hb.cell (p := ⟨E.b, 1, none⟩) hbz).trans c1, (hb.frozen (p := ⟨E.b, 1, none⟩) hbz).trans fz, (hb.cell (p := ⟨g, i0 * 4, none⟩) hgz).trans t0, (hb.cell (p := ⟨g, i0 * 4 + 1, none⟩) hgz).trans t1, (hb.cell (p := ⟨g, i0 * 4 + 2, none⟩) hgz).trans t2, (hb.cell (p := ⟨g, i0 * 4 + 3, none⟩) hgz).trans t3⟩
    obtain ⟨d0, d1, fz1, e0, e1, e2, e3⟩ := HAF.out _ HB1.out
    clear hv hC hts ht hr c0 c1 fz t0 t1 t2 t3
    cases hkd : t.k == kd with
    | false =>
      rw [hkd] at hF
      have hkd' : (t.k != kd) = true := by simp only [bne, hkd]; rfl
      rw [hF]
      clear hF z0
      go_enter Tryz.func80, Tryz.ntmps80
      go_wp2_with fail
      generalize w.alloc (.cells #[.int .i64 0, .string ⟨#[]⟩, .int .i64 0, .int .i64 0] 52) = w1 at *
      go_quiet (fail)
      rename Nat => nq
      have hb1 : Below w.heap.size w (w1.drewN nq) := HB1.out.trans ⟨rfl, rfl, rfl, Nat.le_refl _, fun _ _ => rfl⟩
      go_wp2_with fail
      exact ⟨rfl, rfl, hHC.out _ hb1⟩
    | true =>
      rw [hkd] at hF
      have hkd' : (t.k != kd) = false := by simp only [bne, hkd]; rfl
      rw [hF]
      clear hF
      go_enter Tryz.func80, Tryz.ntmps80
      go_wp2_with fail
      generalize w.alloc (.cells #[.int .i64 0, .string ⟨#[]⟩, .int .i64 0, .int .i64 0] 52) = w1 at *
      go_quiet (fail)
      rename Nat => nq
      have hb1 : Below w.heap.size w (w1.drewN nq) := HB1.out.trans ⟨rfl, rfl, rfl, Nat.le_refl _, fun _ _ => rfl⟩
      have y0 : (w1.drewN nq).heap[w.heap.size]? = some (.cells #[.int .i64 0, .string ⟨#[]⟩, .int .i64 0, .int .i64 0] 52 (0, 0)) := z0
      obtain ⟨c0, c1, fz, t0, t1, t2, t3⟩ := HAF.out _ hb1
      have hb2 : Below (w.heap.size + 1) w1 (w1.drewN nq) := ⟨rfl, rfl, rfl, Nat.le_refl _, fun _ _ => rfl⟩
      clear d0 d1 fz1 e0 e1 e2 e3 z0
      generalize w1.drewN nq = w2 at *
      go_wp2_with fail
      have y1 : (w2.setCell ⟨E.b, 1, none⟩ (.int .i64 ((i0 : Int) + 1))).heap[w.heap.size]? = some (.cells #[.int .i64 0, .string ⟨#[]⟩, .int .i64 0, .int .i64 0] 52 (0, 0)) := (Below.heap_setCell _ _ _ _ hK).trans y0
      have gk : ∀ o, (w2.setCell ⟨E.b, 1, none⟩ (.int .i64 ((i0 : Int) + 1))).cell? ⟨g, o, none⟩ = w2.cell? ⟨g, o, none⟩ := fun o => World.cell?_of_block (Below.heap_setCell _ _ _ _ hgb)
      have s0 := (gk (i0 * 4)).trans t0
      have s1 := (gk (i0 * 4 + 1)).trans t1
      have s2 := (gk (i0 * 4 + 2)).trans t2
      have s3 := (gk (i0 * 4 + 3)).trans t3
      have r0 : (w2.setCell ⟨E.b, 1, none⟩ (.int .i64 ((i0 : Int) + 1))).cell? ⟨E.b, 0, none⟩ = some (.slice (some ⟨g, 0, none⟩) E.l.length cap) := by go_simp
      have r1 : (w2.setCell ⟨E.b, 1, none⟩ (.int .i64 ((i0 : Int) + 1))).cell? ⟨E.b, 1, none⟩ = some (.int .i64 ((i0 : Int) + 1)) := by go_simp
      have HC2 := hidk (HM.out _ hb2)
      clear gk t0 t1 t2 t3 c0 c1 fz y0
      generalize w2.setCell ⟨E.b, 1, none⟩ (.int .i64 ((i0 : Int) + 1)) = w3 at *
      have p0 : w3.cell? ⟨w.heap.size, 0, none⟩ = some (.int .i64 0) := by rw [cell_of_row _ _ _ _ _ _ y1]; rfl
      have p1 : w3.cell? ⟨w.heap.size, 1, none⟩ = some (.string ⟨#[]⟩) := by rw [cell_of_row _ _ _ _ _ _ y1]; rfl
      have p2 : w3.cell? ⟨w.heap.size, 2, none⟩ = some (.int .i64 0) := by rw [cell_of_row _ _ _ _ _ _ y1]; rfl
      have p3 : w3.cell? ⟨w.heap.size, 3, none⟩ = some (.int .i64 0) := by rw [cell_of_row _ _ _ _ _ _ y1]; rfl
      have f0 := frozen_row y1 0
      have f1 := frozen_row y1 1
      have f2 := frozen_row y1 2
      have f3 := frozen_row y1 3
      have hgk : w.heap.size ≠ g := by omega
      have HK2 : Hid (∀ a b c d, Cx E B w0 (((((w3.setCell ⟨w.heap.size, 0, none⟩ a).setCell ⟨w.heap.size, 1, none⟩ b).setCell ⟨w.heap.size, 2, none⟩ c).setCell ⟨w.heap.size, 3, none⟩ d).drew) (.p r) H L) := fun a b c d =>
        (((HC2.out.set 0 rfl 0 [a, b, c, d] (by simp)).less (List.sublist_cons_self _ _) (fun x hx => hx))).drew
      clear y1 HM hHC HAF
      go_region
      all_goals
        go_wp2_with fail
        refine bodyPost_ret (v := tokV t) ?_ rfl ⟨rfl, HK2.out _ _ _ _⟩
        simp [results, Tryz.results80, go_sem, tokV, p0, p1, p2, p3]
theorem q_atName {E : Env} {B : Nat} {w0 w : World} {ts : List Tok} {H : List Bx} {L : List Tn} (hC : Cx E B w0 w (.p ts) H L) :
    Calls Tryz.prog 164 #[.pointer (some ⟨E.b, 0, none⟩)] w ((Out.v (.bool (atnB ts)) (.p ts)).P E B w0 H L) := by
  have HC := hidk hC
  obtain ⟨i0, ao, cap, hi0, hts, hpc⟩ := hC.pc
  obtain ⟨hv, c0, c1, fz, hcap⟩ := hpc
  have h6 := hC.ok.len
  have hbz := hC.st.lt
  cases ts with
  | nil =>
    obtain rfl := drop_nil hi0 hts
    have hB : atnB [] = false := rfl
    rw [hB]
    clear hv hC hts hB
    go_enter Tryz.func164, Tryz.ntmps164
    go_wp2_with fail
    go_quiet (fail)
    rename Nat => nq
    go_wp2_with fail
    go_ret
    exact endV (HC.out.keepB ⟨rfl, rfl, rfl, Nat.le_refl _, fun _ _ => rfl⟩)
  | cons t r =>
    obtain ⟨hlt, ht, hr⟩ := drop_cons hts
    obtain ⟨g, cap', hv', hcap', t0, t1, t2, t3⟩ := hC.tok (ts := t :: r) hlt
    rw [ht] at t0 t1 t2 t3
    rw [hv] at hv'
    cases hv'
    have hne : ((i0 : Int) == (E.l.length : Int)) = false := by rw [beq_eq_false_iff_ne]; omega
    have tlt : (i0 : Int) < (E.l.length : Int) := by omega
    have tge : (0 : Int) ≤ (i0 : Int) := by omega
    have hgz := (hC.st.row.lo g (by rw [hv]; rfl)).2
    have hrs := fun W => reserved_any ⟨t.s.toArray⟩ W
    have hF : atnB (t :: r) = (t.k == 0 && !resL.contains t.s) := rfl
    have hrs' : ∀ W, Calls Tryz.prog 81 #[.string ⟨t.s.toArray⟩] W fun e w' => e = .returned (.bool (resL.contains t.s)) ∧ w' = W := hrs
    clear hrs
    generalize resL.contains t.s = bq at *
    have HAF : Hid (∀ W, Below w.heap.size w W → W.cell? ⟨E.b, 0, none⟩ = some (.slice (some ⟨g, 0, none⟩) E.l.length cap) ∧ W.cell? ⟨E.b, 1, none⟩ = some (.int .i64 i0) ∧ W.cell? ⟨g, i0 * 4, none⟩ = some (.int .i64 t.k) ∧ W.cell? ⟨g, i0 * 4 + 1, none⟩ = some (.string ⟨t.s.toArray⟩) ∧ W.cell? ⟨g, i0 * 4 + 2, none⟩ = some (.int .i64 t.n) ∧ W.cell? ⟨g, i0 * 4 + 3, none⟩ = some (.int .i64 t.at_) ∧ W.heap.size ≠ E.b ∧ W.heap.size ≠ g ∧ E.b < W.heap.size ∧ g < W.heap.size) := fun W hb =>
      ⟨(hb.cell (p := ⟨E.b, 0, none⟩) hbz).trans c0, (hb.cell (p := ⟨E.b, 1, none⟩) hbz).trans c1, (hb.cell (p := ⟨g, i0 * 4, none⟩) hgz).trans t0, (hb.cell (p := ⟨g, i0 * 4 + 1, none⟩) hgz).trans t1, (hb.cell (p := ⟨g, i0 * 4 + 2, none⟩) hgz).trans t2, (hb.cell (p := ⟨g, i0 * 4 + 3, none⟩) hgz).trans t3, by have := hb.size; omega, by have := hb.size; omega, by have := hb.size; omega, by have := hb.size; omega⟩
    have hal : ∀ (W : World), Below w.heap.size w W → ∀ (o : Obj), Below w.heap.size w (W.alloc o).drew := fun W hb o => (hb.alloc hb.size o).drew
    have HAL := hidk hal
    rw [hF]
    clear hv hC hts ht hr hal hF
    cases hkd : t.k == 0 with
    | false =>
      rw [Bool.false_and]
      go_enter Tryz.func164, Tryz.ntmps164
      go_wp2_with fail
      go_quiet (fail)
      rename Nat => nq
      have hb1 : Below w.heap.size w (w.drewN nq) := ⟨rfl, rfl, rfl, Nat.le_refl _, fun _ _ => rfl⟩
      clear c0 c1 fz t0 t1 t2 t3
      generalize w.drewN nq = w1 at *
      obtain ⟨c0, c1, t0, t1, t2, t3, e1, e2, e3, e4⟩ := HAF.out _ hb1
      go_wp2_with fail
      go_region
      all_goals
        go_wp2_with fail
        go_ret
        exact endV (HC.out.keepB (HAL.out _ hb1 _))
    | true =>
      rw [Bool.true_and]
      go_enter Tryz.func164, Tryz.ntmps164
      go_wp2_with fail
      go_quiet (fail)
      rename Nat => nq
      have hb1 : Below w.heap.size w (w.drewN nq) := ⟨rfl, rfl, rfl, Nat.le_refl _, fun _ _ => rfl⟩
      clear c0 c1 fz t0 t1 t2 t3
      generalize w.drewN nq = w1 at *
      obtain ⟨c0, c1, t0, t1, t2, t3, e1, e2, e3, e4⟩ := HAF.out _ hb1
      go_wp2_with fail
      go_region
      all_goals
        go_wp2_with (go_at_call 81; refine (hrs' _).mono ?_; rintro e w1 ⟨rfl, hw1⟩; obtain rfl := hw1.symm)
        go_ret
        exact endV (HC.out.keepB (HAL.out _ hb1 _))
theorem opnN_at {ts : List Tok} {k : Nat} (h : ∀ j, j < k → sdB j 3 [40] ts = true) : k ≤ opnN ts ∧ (sdB k 3 [40] ts = false → opnN ts = k) := by
  induction k generalizing ts with
  | zero =>
    refine ⟨Nat.zero_le _, fun h0 => ?_⟩
    unfold opnN
    cases ts with
    | nil => rfl
    | cons t r =>
      simp only [sdB, List.drop_zero] at h0
      simp [List.takeWhile_cons, h0]
  | succ k ih =>
    cases ts with
    | nil =>
      have := h 0 (by omega)
      simp [sdB] at this
    | cons t r =>
      have h1 := h 0 (by omega)
      simp only [sdB, List.drop_zero] at h1
      have h2 := ih (ts := r) (fun j hj => by
        have := h (j + 1) (by omega)
        simpa [sdB] using this)
      have e : opnN (t :: r) = opnN r + 1 := by
        unfold opnN
        rw [List.takeWhile_cons, if_pos h1]
        rfl
      rw [e]
      refine ⟨by omega, fun h3 => ?_⟩
      have := h2.2 (by simpa [sdB] using h3)
      omega
theorem opnN_le (ts : List Tok) : opnN ts ≤ ts.length := by
  unfold opnN
  have := (List.takeWhile_sublist (l := ts) fun t => t.k == 3 && t.s == [40]).length_le
  exact this
theorem q_opens {E : Env} {B : Nat} {w0 w : World} {ts : List Tok} {H : List Bx} {L : List Tn} (hC : Cx E B w0 w (.p ts) H L) :
    Calls Tryz.prog 89 #[.pointer (some ⟨E.b, 0, none⟩)] w ((Out.v (.bool (opnB ts)) (.p ts)).P E B w0 H L) := by
  have HC := hidk hC
  have hst := fun k hk kd s => q_stands0 hC k hk kd s
  have hlen : ts.length ≤ 600 := by
    obtain ⟨i0, ao, cap, hi0, hts, _⟩ := hC.pc
    have := hC.ok.len
    rw [← hts]; simp; omega
  obtain ⟨bq, hbq⟩ : ∃ b, b = opnB ts := ⟨_, rfl⟩
  rw [← hbq]
  have HQ := hidk hbq
  clear hbq hC
  go_enter Tryz.func89, Tryz.ntmps89
  go_wp2_with fail
  go_loop [3] (fun y => ∃ k : Nat, k ≤ ts.length ∧ y = .int .i64 k ∧ Hid (∀ j, j < k → sdB j 3 [40] ts = true)) (fun y => ts.length - (intOf y).toNat)
  case atStart => exact ⟨0, Nat.zero_le _, rfl, fun j hj => by omega⟩
  case round =>
    obtain ⟨k, hk, rfl, HB⟩ := hrel
    have h3 := hst k (by omega) 3 ⟨#[40]⟩
    have h4 := hst k (by omega) 0 ⟨#[115, 101, 108, 101, 99, 116]⟩
    have hop := opnN_at HB.out
    have hle := opnN_le ts
    have e1 : (⟨#[40]⟩ : ByteArray).data.toList = [40] := rfl
    have e2 : (⟨#[115, 101, 108, 101, 99, 116]⟩ : ByteArray).data.toList = [115, 101, 108, 101, 99, 116] := rfl
    rw [e1] at h3
    rw [e2] at h4
    cases hs : sdB k 3 [40] ts with
    | true =>
      rw [hs] at h3
      have HN : Hid (∀ j, j < k + 1 → sdB j 3 [40] ts = true) := fun j hj => by
        by_cases e : j = k
        · subst e; exact hs
        · exact HB.out j (by omega)
      have hk2 := (opnN_at HN.out).1
      clear hs hst h4 hop HB e1 e2
      go_wp2_with (go_at_call 79; refine h3.mono ?_; rintro e w1 ⟨rfl, hw1⟩; obtain rfl := hw1.symm)
      go_round
      case rel => exact ⟨k + 1, by omega, by go_num, HN⟩
      case measure => simp [intOf]; omega
    | false =>
      rw [hs] at h3
      have hk2 := hop.2 hs
      have hQ2 : bq = (decide (0 < k) && sdB k 0 [115, 101, 108, 101, 99, 116] ts) := by rw [HQ.out]; unfold opnB; rw [hk2]
      clear hs hst hop HB e1 e2 HQ hk2
      generalize sdB k 0 [115, 101, 108, 101, 99, 116] ts = b2 at *
      by_cases hk0 : 0 < k
      · have tk : (0 : Int) < (k : Int) := by omega
        rw [decide_eq_true hk0, Bool.true_and] at hQ2
        have HQ2 := hidk hQ2
        clear hQ2
        go_wp2_with (first
        | (go_at_call_of 79 (Value.string ⟨#[40]⟩); refine h3.mono ?_; rintro e w1 ⟨rfl, hw1⟩; obtain rfl := hw1.symm)
        | (go_at_call_of 79 (Value.string ⟨#[115, 101, 108, 101, 99, 116]⟩); refine h4.mono ?_; rintro e w1 ⟨rfl, hw1⟩; obtain rfl := hw1.symm))
        go_ret
        rw [HQ2.out]
        exact endV HC.out
      · have hk00 : k = 0 := by omega
        subst hk00
        have HQ2 : Hid (bq = false) := hQ2
        clear hQ2
        go_wp2_with (first
        | (go_at_call_of 79 (Value.string ⟨#[40]⟩); refine h3.mono ?_; rintro e w1 ⟨rfl, hw1⟩; obtain rfl := hw1.symm))
        go_ret
        rw [HQ2.out]
        exact endV HC.out
end Go.Proofs.YtaenpacfbheppaaGreatDoor

namespace Go.Proofs.YtaenpacfbheppaaGreatDoor
open Go.RowKit
theorem takF_le {kd : Int} {ts r : List Tok} {x : Tok} (h : takF kd ts = some (x, r)) : r.length < ts.length := by have := takF_len h; omega
theorem useRes {R : Ending → World → Prop} {w : World} (s : List UInt8) (h1 : resL.contains s = true → R (.returned (.bool true)) w) (h0 : resL.contains s = false → R (.returned (.bool false)) w) : Calls Tryz.prog 81 #[.string ⟨s.toArray⟩] w R := by
  refine (reserved_any ⟨s.toArray⟩ w).mono ?_
  rintro e W ⟨rfl, rfl⟩
  show R (.returned (.bool (resL.contains s))) W
  cases hb : resL.contains s with
  | true => exact h1 hb
  | false => exact h0 hb
theorem endG0 {E : Env} {B : Nat} {w0 W : World} {H : List Bx} {L : List Tn} {o : Option (List UInt8 × List Tok)} {ts : List Tok} (h : Hid (none = o)) (hc : Cx E B w0 W (.p ts) H L) : (oG o ts).P E B w0 H L (.returned (.bool false)) W := by
  rw [← h.out]; exact ⟨rfl, hc⟩
theorem endG1 {E : Env} {B : Nat} {w0 W : World} {H : List Bx} {L : List Tn} {o : Option (List UInt8 × List Tok)} {ts r : List Tok} {x : List UInt8} (h : Hid (some (x, r) = o)) (hc : Cx E B w0 W (.p r) H L) : (oG o ts).P E B w0 H L (.returned (.bool true)) W := by
  rw [← h.out]; exact ⟨rfl, hc⟩
theorem endW {E : Env} {B : Nat} {w0 W : World} {H : List Bx} {L : List Tn} {o : Option (List UInt8 × List Tok)} {r : List Tok} {x : List UInt8} (h : Hid (some (x, r) = o)) (hc : Cx E B w0 W (.p r) H L) : (oW o).P E B w0 H L (.returned (.tuple #[])) W := by
  rw [← h.out]; exact ⟨rfl, hc⟩
theorem stopW {E : Env} {B : Nat} {w0 W : World} {H : List Bx} {L : List Tn} {o : Option (List UInt8 × List Tok)} (h : Hid (none = o)) (hf : Fr w0 W (fun i => i = E.b)) : (oW o).P E B w0 H L (.panicked stopP) W := by
  rw [← h.out]; exact ⟨rfl, hf⟩
theorem field_n (a b c d : Value) (w : World) : (Instr.field 52 (.agg #[a, b, c, d]) 2).run Tryz.prog w = .ok c w := by kernel_rfl
theorem field_s (a b c d : Value) (w : World) : (Instr.field 52 (.agg #[a, b, c, d]) 1).run Tryz.prog w = .ok b w := by kernel_rfl
theorem q_mark (b : Bool) (w : World) : Calls Tryz.prog 94 #[.bool b] w fun e w' => e = .returned (.int .i64 (if b then 1 else 0)) ∧ w' = w := by
  cases b <;> (go_enter Tryz.func94, Tryz.ntmps94; go_wp2; go_ret; exact ⟨rfl, rfl⟩)
theorem q_tookSign {E : Env} {B : Nat} {w0 w : World} {ts : List Tok} {H : List Bx} {L : List Tn} (sg : List UInt8) (hC : Cx E B w0 w (.p ts) H L) :
    Calls Tryz.prog 21 #[.pointer (some ⟨E.b, 0, none⟩), .string ⟨sg.toArray⟩] w ((oG (sgF sg ts) ts).P E B w0 H L) := by
  obtain ⟨o, ho⟩ : ∃ o, sgF sg ts = o := ⟨_, rfl⟩
  rw [ho]
  unfold sgF at ho
  have HO := hidk ho
  clear ho
  go_enter Tryz.func21, Tryz.ntmps21
  go_wp2_with (first
  | (refine bA ?_; clear hC; intro W k hC)
  | (go_at_call 62; have hD := hC; clear hC; (first | guard_target = Calls _ _ #[_, _, Value.slice (some _) 1 1] _ _; refine useO (q_one1 _ _ hD) ?_ ?_); (focus (intro hF W hC; clear hD; (try simp only [hF, Option.isSome_none, Bool.false_eq_true, Bool.and_false, reduceIte] at HO); clear hF)); rotate_left; (focus (intro x r hF W hC; clear hD; (try simp only [hF, Option.isSome_some, Bool.and_true, reduceIte] at HO); have hl := oneF_le hF; clear hF))))
  all_goals first | exact ⟨rfl, stopG⟩ | (go_ret; first | exact endG0 HO (hC.fin0 mSub mL) | exact endG1 HO (hC.fin0 mSub mL))
theorem q_needSign {E : Env} {B : Nat} {w0 w : World} {ts : List Tok} {H : List Bx} {L : List Tn} (sg : List UInt8) (hC : Cx E B w0 w (.p ts) H L) :
    Calls Tryz.prog 117 #[.pointer (some ⟨E.b, 0, none⟩), .string ⟨sg.toArray⟩] w ((oW (sgF sg ts)).P E B w0 H L) := by
  obtain ⟨o, ho⟩ : ∃ o, sgF sg ts = o := ⟨_, rfl⟩
  rw [ho]
  have HO := hidk ho
  clear ho
  go_enter Tryz.func117, Tryz.ntmps117
  go_wp2_with (first
  | (go_at_call 21; have hD := hC; clear hC; refine useG (q_tookSign _ hD) ?_ ?_; (focus (intro hF W hC; clear hD; (try simp only [hF, Option.isSome_none, Bool.false_eq_true, Bool.and_false, reduceIte] at HO); clear hF)); rotate_left; (focus (intro x r hF W hC; clear hD; (try simp only [hF, Option.isSome_some, Bool.and_true, reduceIte] at HO); have hl := oneF_le hF; clear hF))))
  all_goals first | exact ⟨rfl, stopW HO hC.mv⟩ | (refine bodyPost_end (results_none rfl _ _ _) rfl ?_; exact endW HO (hC.fin0 mSub mL))
theorem q_number {E : Env} {B : Nat} {w0 w : World} {ts : List Tok} {H : List Bx} {L : List Tn} (hC : Cx E B w0 w (.p ts) H L) :
    Calls Tryz.prog 143 #[.pointer (some ⟨E.b, 0, none⟩)] w ((oI (numF ts)).P E B w0 H L) := by
  obtain ⟨o, ho⟩ : ∃ o, numF ts = o := ⟨_, rfl⟩
  rw [ho]
  unfold numF at ho
  have HO := hidk ho
  clear ho
  have hfd := field_n
  go_enter Tryz.func143, Tryz.ntmps143
  go_wp2_with (first
  | (go_at_call 80; have hD := hC; clear hC; refine useT (q_take hD _) ?_ ?_; (· intro hF W hM; clear hD; (try simp only [hF] at HO); exact ⟨rfl, stopI HO hM⟩); intro t r hF W hC; clear hD; (try simp only [hF] at HO); have hl := takF_le hF; clear hF))
  all_goals first | exact ⟨rfl, stopI HO hC.mv⟩ | (go_ret; exact endI HO (hC.fin0 mSub mL))
theorem q_name {E : Env} {B : Nat} {w0 w : World} {ts : List Tok} {H : List Bx} {L : List Tn} (hC : Cx E B w0 w (.p ts) H L) :
    Calls Tryz.prog 52 #[.pointer (some ⟨E.b, 0, none⟩)] w ((oS (nameF ts)).P E B w0 H L) := by
  obtain ⟨o, ho⟩ : ∃ o, nameF ts = o := ⟨_, rfl⟩
  rw [ho]
  unfold nameF at ho
  have HO := hidk ho
  clear ho
  have hfd := field_s
  go_enter Tryz.func52, Tryz.ntmps52
  go_wp2_with (first
  | (go_at_call 80; have hD := hC; clear hC; refine useT (q_take hD _) ?_ ?_; (· intro hF W hM; clear hD; (try simp only [hF] at HO); exact ⟨rfl, stopS HO hM⟩); intro t r hF W hC; clear hD; (try simp only [hF] at HO); have hl := takF_le hF; clear hF)
  | (go_at_call 81; refine useRes _ ?_ ?_; (focus (intro hb; (try simp only [hb, reduceIte] at HO); clear hb)); rotate_left; (focus (intro hb; (try simp only [hb, reduceIte, Bool.false_eq_true] at HO); clear hb))))
  all_goals first | exact ⟨rfl, stopS HO hC.mv⟩ | (go_ret; exact endS HO (hC.fin0 mSub mL))
theorem q_alias {E : Env} {B : Nat} {w0 w : World} {ts : List Tok} {H : List Bx} {L : List Tn} (hC : Cx E B w0 w (.p ts) H L) :
    Calls Tryz.prog 175 #[.pointer (some ⟨E.b, 0, none⟩)] w ((oS (aliasF ts)).P E B w0 H L) := by
  obtain ⟨o, ho⟩ : ∃ o, aliasF ts = o := ⟨_, rfl⟩
  rw [ho]
  unfold aliasF at ho
  have HO := hidk ho
  clear ho
  go_enter Tryz.func175, Tryz.ntmps175
  go_wp2_with (first
  | (refine bA ?_; clear hC; intro W k hC)
  | (go_at_call 50; have hD := hC; clear hC; (first | guard_target = Calls _ _ #[_, Value.slice (some _) 1 1] _ _; refine useB (q_took1 _ hD) ?_ ?_); (focus (intro hb W hC; clear hD; (try simp only [hb, reduceIte, pB] at HO); (try have hl := tkR_ls hb (by simp)); clear hb)); rotate_left; (focus (intro hb W hC; clear hD; (try simp only [tkR_no hb] at HO hC); (try simp only [hb, reduceIte, pB] at HO); clear hb)))
  | (go_at_call 164; have hD := hC; clear hC; refine useB (q_atName hD) ?_ ?_; (focus (intro hb W hC; clear hD; (try simp only [hb, reduceIte, Bool.true_and] at HO); clear hb)); rotate_left; (focus (intro hb W hC; clear hD; (try simp only [hb, reduceIte, Bool.false_and, Bool.false_eq_true] at HO); clear hb)))
  | (go_at_call 52; have hD := hC; clear hC; (first | refine useS (q_name hD) ?_ ?_); (· intro hF W hM; clear hD; (try simp only [hF] at HO); exact ⟨rfl, stopS HO hM⟩); intro s r hF W hC; clear hD; (try simp only [hF] at HO); have hl := nameF_le hF; clear hF))
  all_goals first | exact ⟨rfl, stopS HO hC.mv⟩ | (go_ret; exact endS HO (hC.fin0 mSub mL))
end Go.Proofs.YtaenpacfbheppaaGreatDoor

namespace Go.Proofs.YtaenpacfbheppaaGreatDoor
open Go.RowKit

structure Rw (cap : Nat) (l : List Tr) (ks : List Kid) (cur : List Value) : Prop where
  len : cur.length = cap * 4
  fit : l.length ≤ cap
  max : cap ≤ maxLen
  kl : ks.length = l.length
  cells : cur.take (l.length * 4) = flatK ks l
def Rin (ks : List Kid) (l : List Tr) (L : List Tn) : Prop := ∀ i (h1 : i < ks.length) (h2 : i < l.length), (ks[i].1, ks[i].2, l[i]) ∈ L
theorem Rin.mono {ks : List Kid} {l : List Tr} {L L' : List Tn} (h : Rin ks l L) (hL : ∀ y ∈ L, y ∈ L') : Rin ks l L' := fun i h1 h2 => hL _ (h i h1 h2)
theorem Rin.app {ks k2 : List Kid} {l l2 : List Tr} {L : List Tn} (hk : ks.length = l.length) (h : Rin ks l L) (h2 : Rin k2 l2 L) : Rin (ks ++ k2) (l ++ l2) L := by
  intro i h3 h4
  by_cases hi : i < ks.length
  · rw [List.getElem_append_left hi, List.getElem_append_left (by omega)]
    exact h i hi (by omega)
  · rw [List.getElem_append_right (by omega), List.getElem_append_right (by omega)]
    have := h2 (i - ks.length) (by simp at h3; omega) (by simp at h4; omega)
    simp only [hk] at this ⊢
    exact this
theorem Rin.one {a : Option Addr} {p : Nat} {t : Tr} {L : List Tn} (h : (a, p, t) ∈ L) : Rin [(a, p)] [t] L := by
  intro i h1 h2
  obtain rfl : i = 0 := by simp at h1; omega
  exact h
theorem flatK_app : ∀ (ks k2 : List Kid) (l l2 : List Tr), ks.length = l.length → flatK (ks ++ k2) (l ++ l2) = flatK ks l ++ flatK k2 l2
  | [], k2, [], l2, _ => rfl
  | [], _, _ :: _, _, h => by simp at h
  | _ :: _, _, [], _, h => by simp at h
  | k :: ks, k2, t :: l, l2, h => by
    simp only [List.length_cons, Nat.add_right_cancel_iff] at h
    simp only [List.cons_append, flatK, flatK_app ks k2 l l2 h, List.append_assoc]
theorem flatK_one : ∀ (ks : List Kid) (l : List Tr), ∀ u ∈ flatK ks l, u.oneCell' = true
  | [], _, u, h => by simp [flatK] at h
  | _ :: _, [], u, h => by simp [flatK] at h
  | k :: ks, t :: l, u, h => by
    simp only [flatK, List.mem_append] at h
    rcases h with h | h
    · simp only [ncs, List.mem_cons, List.not_mem_nil, or_false] at h
      rcases h with rfl | rfl | rfl | rfl <;> rfl
    · exact flatK_one ks l u h
section
variable {E : Env} {B : Nat} {w0 w : World} {s : Stt} {H : List Bx} {L : List Tn}
theorem Cx.grow (hC : Cx E B w0 w s H L) (i : Nat) {k T g : Nat} {cur : List Value} (hi : H[i]? = some (k, cur, T)) {w' : World} {cur' : Array Value} (hg : w.grownBy w' (some k)) (hgk : some k = some g ∨ g = w.heap.size) (hh : w'.heap[g]? = some (.cells cur' T (0, 0))) : Cx E B w0 w' s (H.set i (g, cur'.toList, T)) L := by
  have hm := List.mem_of_getElem? hi
  have hb := hC.hl _ hm
  have hklt : k < w.heap.size := (Array.getElem?_eq_some_iff.1 hb.2).1
  have hk0 : w0.heap.size ≤ k := hb.1
  have hne : E.b ≠ k := by have h1 := hC.lo.1; omega
  have hold : ∀ j, j < w.heap.size → j ≠ k → w'.heap[j]? = w.heap[j]? := fun j hj hjk => hg.block j hj (fun e => hjk (Option.some.inj e))
  have hvlt : ∀ j, E.v.ownBlock = some j → j < w.heap.size := fun j hj => (hC.st.row.lo j hj).2
  have hlt : ∀ x ∈ H, x.1 < w.heap.size := fun x hx => (Array.getElem?_eq_some_iff.1 (hC.hl x hx).2).1
  have hgs : k = g ∨ g = w.heap.size := hgk.imp (fun e => Option.some.inj e) id
  have hil := (List.getElem?_eq_some_iff.1 hi).1
  have e2 := (List.getElem?_eq_some_iff.1 hi).2
  have hp := List.pairwise_iff_getElem.1 hC.nd
  have hjk : ∀ j (hj : j < H.length), i ≠ j → H[j].1 ≠ k := fun j hj hne2 => by
    rcases Nat.lt_or_gt_of_ne hne2 with hlt | hgt
    · have := hp i j hil hj hlt
      rw [e2] at this
      exact fun e => this e.symm
    · have := hp j i hj hil hgt
      rw [e2] at this
      exact this
  have hout : ∀ j, j < w.heap.size → (∀ y ∈ H, j ≠ y.1) → ∀ y ∈ H.set i (g, cur'.toList, T), j ≠ y.1 := fun j hj hy y hyy => by
    rcases List.mem_or_eq_of_mem_set hyy with h | rfl
    · exact hy y h
    · rcases hgs with rfl | rfl
      · exact hy (_, cur, T) hm
      · show j ≠ w.heap.size; omega
  refine ⟨hC.ok, hC.st.keep (hold _ hC.st.lt hne) (fun j hj => hold j (hvlt j hj) (hC.hn _ hm j hj)), ?_, hC.lo, hC.bl, hC.hB, ?_, ?_, ?_, ?_⟩
  · refine ⟨hg.os.trans hC.mv.os, hg.tape.trans hC.mv.tape, hg.output.trans hC.mv.output, Nat.le_trans hC.mv.size hg.size, fun j hj hjb => ?_⟩
    have := hC.mv.size
    exact (hold j (by omega) (by omega)).trans (hC.mv.block j hj hjb)
  · intro x hx
    obtain ⟨j, hj, e⟩ := List.mem_iff_getElem.1 hx
    rw [List.length_set] at hj
    rw [List.getElem_set] at e
    split at e
    · subst e
      refine ⟨?_, by simpa using hh⟩
      have := hC.mv.size
      rcases hgs with rfl | rfl
      · exact hb.1
      · show w0.heap.size ≤ w.heap.size; omega
    · rename_i hne2
      subst e
      have hx2 := hC.hl _ (List.getElem_mem hj)
      exact ⟨hx2.1, (hold _ (hlt _ (List.getElem_mem hj)) (hjk j hj hne2)).trans hx2.2⟩
  · intro x hx j hj
    exact hout j (hvlt j hj) (fun y hy => hC.hn y hy j hj) x hx
  · refine List.pairwise_iff_getElem.2 fun a b ha hb2 hab => ?_
    rw [List.length_set] at ha hb2
    rw [List.getElem_set, List.getElem_set]
    have hfresh : ∀ j (hj : j < H.length), i ≠ j → H[j].1 ≠ g := fun j hj hij => by
      rcases hgs with rfl | rfl
      · exact hjk j hj hij
      · have := hlt _ (List.getElem_mem hj); omega
    split
    · rename_i e1
      rw [if_neg (by omega)]
      exact fun e => hfresh b hb2 (by omega) e.symm
    · split
      · rename_i h1 h2
        exact hfresh a ha h1
      · exact hp a b ha hb2 hab
  · intro x hx
    exact (hC.tv x hx).keep fun j hj hjl => ⟨⟨hj.1, hout j hjl hj.2⟩, hold j hjl (hj.2 _ hm)⟩
variable {a : Act} {K : Act → World → Prop} {Q : Exit → Act → World → Prop} {o : Oper}
theorem wp_appN (hC : Cx E B w0 w s H L) (i : Nat) {x y : Operand} {ty : Nat} (ho : o.op = .call { callee := .builtin .append, args := #[x, y], argTypes := #[22, 22] }) {k n cap : Nat} {cur : List Value} {l l2 : List Tr} {ks k2 : List Kid} (hi : H[i]? = some (k, cur, 24)) (hx : a.eval x = .slice (some ⟨k, 0, none⟩) n cap) (hn : n = l.length) (hr : Rw cap l ks cur)
    {ad : Addr} {m c : Nat} (hy : a.eval y = .slice (some ad) m c) (hm : m = l2.length) (h0 : 0 < m) (hk2 : k2.length = l2.length) (hnews : ∀ j u, (flatK k2 l2)[j]? = some u → w.cell? (ad.add j) = some u) (hbig : n + m ≤ 100000)
    (h : ∀ W g cap' cur', Cx E B w0 W s (H.set i (g, cur', 24)) L → Rw cap' (l ++ l2) (ks ++ k2) cur' → K (a.put o.dst (.slice (some ⟨g, 0, none⟩) (n + m) cap')) W) : o.wp Tryz.prog a w K Q := by
  obtain ⟨ie, hie, hz, hsz, hby⟩ := info_parts infoN
  have hk := hC.hl _ (List.mem_of_getElem? hi)
  have hown : w.ownsRow 0 24 4 (.slice (some ⟨k, 0, none⟩) n cap) n (flatK ks l) :=
    ⟨by rw [flatK_len _ _ hr.kl, hn], Or.inr ⟨k, cap, cur.toArray, rfl, Nat.zero_le _, hk.2, by rw [hn]; exact hr.fit, hr.max, by simp [hr.len], by simpa [hn] using hr.cells⟩⟩
  refine wp_append_lies w x y 22 ho 0 24 ie _ 4 64 undNs hie hz hsz hby rfl (by decide) (.slice (some ⟨k, 0, none⟩) n cap) n (flatK ks l) hx hown ad m c (flatK k2 l2) hy (by rw [flatK_len _ _ hk2, hm]) hnews (flatK_one _ _) h0 (by unfold maxLen; omega) (by omega) (Nat.zero_le _) w.heap.size rfl ?_
  intro g cap' w' hr' hgr hgk hlt
  obtain ⟨hlen, h2 | ⟨g', cap2, cur2, hv, _, hh, hc1, hc2, hsz2, hcells⟩⟩ := hr'
  · cases h2.1
  cases hv
  refine h w' g cap' cur2.toList (hC.grow i hi hgr hgk hh) ⟨by simp [hsz2], by simp; omega, hc2, by simp [hr.kl, hk2], ?_⟩
  rw [flatK_app _ _ _ _ hr.kl, List.length_append, ← hn, ← hm]
  exact hcells
theorem wl_appN {ops : Array Oper} {rest : List Oper} (hgd : o.guard = none) (hC : Cx E B w0 w s H L) (i : Nat) {x y : Operand} (ho : o.op = .call { callee := .builtin .append, args := #[x, y], argTypes := #[22, 22] }) {k n cap : Nat} {cur : List Value} {l l2 : List Tr} {ks k2 : List Kid} (hi : H[i]? = some (k, cur, 24)) (hx : a.eval x = .slice (some ⟨k, 0, none⟩) n cap) (hn : n = l.length) (hr : Rw cap l ks cur)
    {ad : Addr} {m c : Nat} (hy : a.eval y = .slice (some ad) m c) (hm : m = l2.length) (h0 : 0 < m) (hk2 : k2.length = l2.length) (hnews : ∀ j u, (flatK k2 l2)[j]? = some u → w.cell? (ad.add j) = some u) (hbig : n + m ≤ 100000)
    (h : ∀ W g cap' cur', Cx E B w0 W s (H.set i (g, cur', 24)) L → Rw cap' (l ++ l2) (ks ++ k2) cur' → wpList Tryz.prog ops Q rest (a.put o.dst (.slice (some ⟨g, 0, none⟩) (n + m) cap')) W) : wpList Tryz.prog ops Q (o :: rest) a w :=
  wpList_plain hgd fun K hK => wp_appN (ty := 0) hC i ho hi hx hn hr hy hm h0 hk2 hnews hbig (fun W g cap' cur' h1 h2 => hK _ _ (h W g cap' cur' h1 h2))
theorem wl_app1 {ops : Array Oper} {rest : List Oper} (hgd : o.guard = none) {k2 T2 : Nat} {a1 : Option Addr} {p1 : Nat} {t1 : Tr} (hC : Cx E B w0 w s ((k2, ncs a1 p1 t1, T2) :: H) L) (h1 : (a1, p1, t1) ∈ L) (i : Nat) {x y : Operand} (ho : o.op = .call { callee := .builtin .append, args := #[x, y], argTypes := #[22, 22] }) {k n cap : Nat} {cur : List Value} {l : List Tr} {ks : List Kid} (hi : H[i]? = some (k, cur, 24)) (hx : a.eval x = .slice (some ⟨k, 0, none⟩) n cap) (hn : n = l.length) (hr : Rw cap l ks cur) (hin : Rin ks l L)
    (hy : a.eval y = .slice (some ⟨k2, 0, none⟩) 1 1) (hbig : n ≤ 10000)
    (h : ∀ W g cap' cur', Cx E B w0 W s (H.set i (g, cur', 24)) L → Rw cap' (l ++ [t1]) (ks ++ [(a1, p1)]) cur' → Rin (ks ++ [(a1, p1)]) (l ++ [t1]) L → wpList Tryz.prog ops Q rest (a.put o.dst (.slice (some ⟨g, 0, none⟩) (n + 1) cap')) W) : wpList Tryz.prog ops Q (o :: rest) a w := by
  refine wl_appN hgd hC (i + 1) (l2 := [t1]) (k2 := [(a1, p1)]) ho (by simpa using hi) hx hn hr hy rfl (by decide) rfl ?_ (by omega) ?_
  · intro j u hu
    have e : flatK [(a1, p1)] [t1] = ncs a1 p1 t1 := by simp [flatK]
    rw [e] at hu
    have := hC.cell 0 rfl j hu
    rwa [Addr.add_mid, Nat.zero_add]
  · intro W g cap' cur' hD hR
    rw [List.set_cons_succ] at hD
    exact h W g cap' cur' (hD.less (List.sublist_cons_self _ _) (fun x hx => hx)) hR (Rin.app hr.kl hin (Rin.one h1))
theorem Cx.made {k : Nat} {cur : List Value} (hC : Cx E B w0 w s ((k, cur, 24) :: H) L) {cap : Nat} {l : List Tr} {ks : List Kid} (hr : Rw cap l ks cur) (hin : Rin ks l L) (h0 : 0 < l.length) (op st : List UInt8) (n : Int) : Cx E B w0 w s H ((some ⟨k, 0, none⟩, cap, .mk op st n l) :: L) :=
  hC.tree ks l hr.kl h0 hr.cells cap ⟨hr.fit, hr.max⟩ (fun i hi => hin i (by rw [hr.kl]; exact hi) hi) op st n
theorem Rw.one {a1 : Option Addr} {p1 : Nat} {t1 : Tr} : Rw 1 [t1] [(a1, p1)] (ncs a1 p1 t1) := ⟨rfl, by simp, by unfold maxLen; omega, rfl, by simp [flatK, ncs]⟩
theorem Cx.open_ (hC : Cx E B w0 w s H L) {ao : Option Addr} {cap : Nat} {t : Tr} (ht : (ao, cap, t) ∈ L) (h0 : 0 < t.L.length) : ∃ g ks, ao = some ⟨g, 0, none⟩ ∧ ks.length = t.L.length ∧ t.L.length ≤ cap ∧ (∀ j u, (flatK ks t.L)[j]? = some u → w.cell? ⟨g, j, none⟩ = some u) ∧ ∃ L', Cx E B w0 w s H L' ∧ (∀ y ∈ L, y ∈ L') ∧ Rin ks t.L L' := by
  have htv := hC.tv _ ht
  cases htv with
  | leaf op st n => simp [Tr.L] at h0
  | row g cap op st n l ks hP hlt h0 hcap hl cells sub =>
    refine ⟨g, ks, rfl, hl, hcap.1, ?_, (List.range l.length).map (fun i => ((ks.getD i (none, 0)).1, (ks.getD i (none, 0)).2, l.getD i (.mk [] [] 0 []))) ++ L, ?_, fun y hy => List.mem_append_right _ hy, ?_⟩
    · intro j u hu
      have hj := (List.getElem?_eq_some_iff.1 hu).1
      rw [show (Tr.mk op st n l).L = l from rfl, flatK_len _ _ hl] at hj
      have e : j = j / 4 * 4 + j % 4 := by omega
      have hk : j / 4 < l.length := by omega
      rw [e, show (Tr.mk op st n l).L = l from rfl, flatK_at ks l hl (j / 4) hk (j % 4) (by omega)] at hu
      have := cells (j / 4) hk (j % 4) u hu
      rwa [← e] at this
    · refine ⟨hC.ok, hC.st, hC.mv, hC.lo, hC.bl, hC.hB, hC.hl, hC.hn, hC.nd, fun x hx => ?_⟩
      rcases List.mem_append.1 hx with hx | hx
      · obtain ⟨i, hi, rfl⟩ := List.mem_map.1 hx
        rw [List.mem_range] at hi
        have hi2 : i < ks.length := by omega
        have := sub i hi
        simpa [List.getD, List.getElem?_eq_getElem hi, List.getElem?_eq_getElem hi2] using this
      · exact hC.tv x hx
    · intro i h1 h2
      refine List.mem_append_left _ (List.mem_map.2 ⟨i, List.mem_range.2 h2, ?_⟩)
      have h2' : i < l.length := h2
      simp [List.getD, List.getElem?_eq_getElem h1, List.getElem?_eq_getElem h2', Tr.L]
theorem perm_erase {α : Type} : ∀ (l : List α) (i : Nat) (x : α), l[i]? = some x → l.Perm (x :: l.eraseIdx i)
  | [], _, _, h => by simp at h
  | a :: l, 0, x, h => by
    simp only [List.getElem?_cons_zero, Option.some.injEq] at h
    subst h
    exact List.Perm.refl _
  | a :: l, i + 1, x, h => by
    simp only [List.getElem?_cons_succ] at h
    have := perm_erase l i x h
    rw [List.eraseIdx_cons_succ]
    exact (List.Perm.cons a this).trans (List.Perm.swap x a _)
theorem Cx.perm {H' : List Bx} (hC : Cx E B w0 w s H L) (h : H.Perm H') : Cx E B w0 w s H' L :=
  ⟨hC.ok, hC.st, hC.mv, hC.lo, hC.bl, hC.hB, fun x hx => hC.hl x (h.mem_iff.2 hx), fun x hx => hC.hn x (h.mem_iff.2 hx), (h.pairwise_iff (fun {a b} h => Ne.symm h)).1 hC.nd, fun x hx => (hC.tv x hx).keep fun k hk _ => ⟨⟨hk.1, fun y hy => hk.2 y (h.mem_iff.2 hy)⟩, rfl⟩⟩
theorem Cx.madeAt (hC : Cx E B w0 w s H L) (i : Nat) {k : Nat} {cur : List Value} (hi : H[i]? = some (k, cur, 24)) {cap : Nat} {l : List Tr} {ks : List Kid} (hr : Rw cap l ks cur) (hin : Rin ks l L) (h0 : 0 < l.length) (op st : List UInt8) (n : Int) : Cx E B w0 w s (H.eraseIdx i) ((some ⟨k, 0, none⟩, cap, .mk op st n l) :: L) := by
  exact (hC.perm (perm_erase _ _ _ hi)).made hr hin h0 op st n
end
end Go.Proofs.YtaenpacfbheppaaGreatDoor

namespace Go.Proofs.YtaenpacfbheppaaGreatDoor
open Go.RowKit
theorem Cx.le600 {E : Env} {B : Nat} {w0 w : World} {ts : List Tok} {H : List Bx} {L : List Tn} (h : Cx E B w0 w (.p ts) H L) : ts.length ≤ 600 := by
  obtain ⟨i, _, hts, _, _⟩ := h.st
  have := h.ok.len
  rw [← hts, List.length_drop]; omega
def DoesN (E : Env) (B : Nat) (w0 : World) (H : List Bx) (g : Nat) (fa la : Array Value) (I : Ps Tr) (m : Nat) : Prop := ∀ {W : World} {ts : List Tok} {H' : List Bx} {L' : List Tn}, H.Sublist H' → Cx E B w0 W (.p ts) H' L' → ts.length < m → Calls Tryz.prog g (fa ++ la) W ((oN (I ts)).P E B w0 H' L')
def DoesL (E : Env) (B : Nat) (w0 : World) (H : List Bx) (g : Nat) (fa la : Array Value) (I : Ps (List Tr)) (m : Nat) : Prop := ∀ {W : World} {ts : List Tok} {H' : List Bx} {L' : List Tn}, H.Sublist H' → Cx E B w0 W (.p ts) H' L' → ts.length < m → Calls Tryz.prog g (fa ++ la) W ((oL (I ts)).P E B w0 H' L')
def DoesI (E : Env) (B : Nat) (w0 : World) (H : List Bx) (g : Nat) (fa la : Array Value) (I : Ps Int) (m : Nat) : Prop := ∀ {W : World} {ts : List Tok} {H' : List Bx} {L' : List Tn}, H.Sublist H' → Cx E B w0 W (.p ts) H' L' → ts.length < m → Calls Tryz.prog g (fa ++ la) W ((oI (I ts)).P E B w0 H' L')
theorem q_parN {E : Env} {B : Nat} {w0 w : World} {ts : List Tok} {H : List Bx} {L : List Tn} {I : Ps Tr} {g m : Nat} {fa la : Array Value} (eg : Enters Tryz.prog g) (hI : DoesN E B w0 H g fa la I m) (hm : ts.length ≤ m) (hC : Cx E B w0 w (.p ts) H L) :
    Calls Tryz.prog 119 #[.pointer (some ⟨E.b, 0, none⟩), .func (.func g) fa la] w ((oN (parF I ts)).P E B w0 H L) := by
  obtain ⟨o, ho⟩ : ∃ o, parF I ts = o := ⟨_, rfl⟩
  rw [ho]
  unfold parF at ho
  have HO := hidk ho
  clear ho
  unfold Enters at eg
  go_enter Tryz.func119, Tryz.ntmps119
  go_wp2_with (first
  | (refine bA ?_; clear hC; intro W k hC)
  | refine bL ?_
  | (refine bS ?_; clear hC; intro W hC)
  | (go_at_call 117; have hD := hC; clear hC; refine useW (q_needSign _ hD) ?_ ?_; (· intro hF W hM; clear hD; (try simp only [hF] at HO); exact ⟨rfl, stopN HO hM⟩); intro x r hF W hC; clear hD; (try simp only [hF] at HO); have hl := oneF_le hF; clear hF)
    | (have hD := hC; clear hC; refine useN (hI mSub hD (by omega)) ?_ ?_; (· intro hF W hM; clear hD; (try simp only [hF] at HO); exact ⟨rfl, stopN HO hM⟩); intro t r hF W ao cap hC; clear hD; (try simp only [hF] at HO); clear hF))
  all_goals first | exact ⟨rfl, stopN HO hC.mv⟩ | exact eM1
theorem q_parL {E : Env} {B : Nat} {w0 w : World} {ts : List Tok} {H : List Bx} {L : List Tn} {I : Ps (List Tr)} {g m : Nat} {fa la : Array Value} (eg : Enters Tryz.prog g) (hI : DoesL E B w0 H g fa la I m) (hm : ts.length ≤ m) (hC : Cx E B w0 w (.p ts) H L) :
    Calls Tryz.prog 82 #[.pointer (some ⟨E.b, 0, none⟩), .func (.func g) fa la] w ((oL (parF I ts)).P E B w0 H L) := by
  obtain ⟨o, ho⟩ : ∃ o, parF I ts = o := ⟨_, rfl⟩
  rw [ho]
  unfold parF at ho
  have HO := hidk ho
  clear ho
  unfold Enters at eg
  go_enter Tryz.func82, Tryz.ntmps82
  go_wp2_with (first
  | (go_at_call 117; have hD := hC; clear hC; refine useW (q_needSign _ hD) ?_ ?_; (· intro hF W hM; clear hD; (try simp only [hF] at HO); exact ⟨rfl, stopL HO hM⟩); intro x r hF W hC; clear hD; (try simp only [hF] at HO); have hl := oneF_le hF; clear hF)
    | (have hD := hC; clear hC; refine useL (hI mSub hD (by omega)) ?_ ?_; (· intro hF W hM; clear hD; (try simp only [hF] at HO); exact ⟨rfl, stopL HO hM⟩); intro l r hF W ao cap hC; clear hD; (try simp only [hF] at HO); clear hF))
  all_goals first | exact ⟨rfl, stopL HO hC.mv⟩ | (go_ret; exact endL HO (hC.fin mSub mMem mL))
theorem q_parI {E : Env} {B : Nat} {w0 w : World} {ts : List Tok} {H : List Bx} {L : List Tn} {I : Ps Int} {g m : Nat} {fa la : Array Value} (eg : Enters Tryz.prog g) (hI : DoesI E B w0 H g fa la I m) (hm : ts.length ≤ m) (hC : Cx E B w0 w (.p ts) H L) :
    Calls Tryz.prog 142 #[.pointer (some ⟨E.b, 0, none⟩), .func (.func g) fa la] w ((oI (parF I ts)).P E B w0 H L) := by
  obtain ⟨o, ho⟩ : ∃ o, parF I ts = o := ⟨_, rfl⟩
  rw [ho]
  unfold parF at ho
  have HO := hidk ho
  clear ho
  unfold Enters at eg
  go_enter Tryz.func142, Tryz.ntmps142
  go_wp2_with (first
  | (go_at_call 117; have hD := hC; clear hC; refine useW (q_needSign _ hD) ?_ ?_; (· intro hF W hM; clear hD; (try simp only [hF] at HO); exact ⟨rfl, stopI HO hM⟩); intro x r hF W hC; clear hD; (try simp only [hF] at HO); have hl := oneF_le hF; clear hF)
    | (have hD := hC; clear hC; refine useI (hI mSub hD (by omega)) ?_ ?_; (· intro hF W hM; clear hD; (try simp only [hF] at HO); exact ⟨rfl, stopI HO hM⟩); intro n r hF W hC; clear hD; (try simp only [hF] at HO); clear hF))
  all_goals first | exact ⟨rfl, stopI HO hC.mv⟩ | (go_ret; exact endI HO (hC.fin0 mSub mL))
theorem q_list {E : Env} {B : Nat} {w0 w : World} {ts : List Tok} {H : List Bx} {L : List Tn} {I : Ps Tr} {g m : Nat} {fa la : Array Value} (eg : Enters Tryz.prog g) (hI : DoesN E B w0 H g fa la I m) (hm : ts.length < m) (hlen : Len I) (hC : Cx E B w0 w (.p ts) H L) :
    Calls Tryz.prog 84 #[.pointer (some ⟨E.b, 0, none⟩), .func (.func g) fa la] w ((oL (lsF I ts)).P E B w0 H L) := by
  obtain ⟨o, ho⟩ : ∃ o, lsF I ts = o := ⟨_, rfl⟩
  rw [ho]
  unfold lsF at ho
  have HO := hidk ho
  clear ho
  unfold Enters at eg
  have h600 := hC.le600
  go_enter Tryz.func84, Tryz.ntmps84
  go_wp2_with (first
  | (refine bA ?_; clear hC; intro W k hC)
  | (refine m0 ?_; clear hC; intro W hC; simp only [pS] at hC; (try simp only [pP]))
  | ((first | refine hC.bP ?_ | refine hC.bN ?_ | refine hC.b1 ?_); clear hC; intro W k hC; (try simp only [pP]))
  | refine bL ?_
  | (refine bS ?_; clear hC; intro W hC)
    | (have hD := hC; clear hC; refine useN (hI mSub hD (by omega)) ?_ ?_; (· intro hF W hM; clear hD; (try simp only [hF] at HO); exact ⟨rfl, stopL HO hM⟩); intro t r hF W ao cap hC; clear hD; (try simp only [hF] at HO); have hl := hlen _ _ _ hF; clear hF))
  go_loopg [5] (r.length) (fun kx sv wr => ∃ (k : Nat) (l : List Tr) (cap : Nat) (cur : List Value) (ks : List Kid) (L' : List Tn) (ts' : List Tok) (f : Nat), sv = .slice (some ⟨k, 0, none⟩) l.length cap ∧ ts'.length ≤ kx ∧ Hid (Cx E B w0 wr (.p ts') ((k, cur, 24) :: H) L') ∧ Hid (Rw cap l ks cur) ∧ Hid (Rin ks l L') ∧ Hid (∀ y ∈ L, y ∈ L') ∧ Hid (lsN I f l ts' = o) ∧ ts'.length < f ∧ l.length + ts'.length ≤ 601 ∧ ts'.length < m ∧ 0 < l.length)
  case atStart => exact ⟨_, [t], 1, _, _, _, r, r.length + 1, rfl, Nat.le_refl _, hC, Rw.one, Rin.one List.mem_cons_self, fun y hy => List.mem_cons_of_mem _ hy, HO, by omega, by simp; omega, by omega, by simp⟩
  case round =>
    rename World => wr
    clear hC HO hl
    obtain ⟨k, l, cap, cur, ks, L', ts', f, rfl, hk, hC', hR, hN, hS, HO, hf, h6, hmm, h0⟩ := hrel
    have hC := hC'.out
    clear hC'
    obtain ⟨f, rfl⟩ : ∃ f', f = f' + 1 := ⟨f - 1, by omega⟩
    have HO2 := hidk HO.out
    clear HO
    obtain ho := HO2.out
    clear HO2
    unfold lsN at ho
    have HO := hidk ho
    clear ho
    go_wp2_with (first
    | (refine bA ?_; clear hC; intro W k hC)
    | (refine m0 ?_; clear hC; intro W hC; simp only [pS] at hC; (try simp only [pP]))
    | ((first | refine hC.bP ?_ | refine hC.bN ?_ | refine hC.b1 ?_); clear hC; intro W k hC; (try simp only [pP]))
    | refine bL ?_
    | (refine bS ?_; clear hC; intro W hC)
    | (go_at_call 21; have hD := hC; clear hC; refine useG (q_tookSign _ hD) ?_ ?_; (focus (intro hF W hC; clear hD; (try simp only [hF, Option.isSome_none, Bool.false_eq_true, Bool.and_false, reduceIte] at HO); clear hF)); rotate_left; (focus (intro x r hF W hC; clear hD; (try simp only [hF, Option.isSome_some, Bool.and_true, reduceIte] at HO); have hl := oneF_le hF; clear hF)))
      | (have hD := hC; clear hC; refine useN (hI (List.sublist_cons_self _ _) hD (by omega)) ?_ ?_; (· intro hF W hM; clear hD; (try simp only [hF] at HO); exact ⟨rfl, stopL HO hM⟩); intro t r hF W ao cap hC; clear hD; (try simp only [hF] at HO); have hl2 := hlen _ _ _ hF; clear hF)
    | (at_builtin; refine wl_app1 rfl hC (.head _) 0 (by rfl) (by rfl) (by rfl) rfl hR.out (hN.out.mono (fun y hy => List.mem_cons_of_mem _ hy)) (by rfl) (by omega) ?_; clear hC; intro W k cap2 cur2 hC hR2 hN2))
    · go_roundg (r.length)
      case measure => omega
      case rel => exact ⟨k, l ++ [t], cap2, cur2, _, _, r, f, (by simp), Nat.le_refl _, hC, hR2, hN2, (fun y hy => List.mem_cons_of_mem _ (hS.out y hy)), HO, by omega, by simp; omega, by omega, by simp⟩
    · go_ret
      exact endL HO ((hC.made hR.out hN.out h0 [] [] 0).fin (List.Sublist.refl _) List.mem_cons_self (fun y hy => List.mem_cons_of_mem _ (hS.out y hy)))
theorem ent94 : Enters Tryz.prog 83 := enters_of (fn := Tryz.f83) rfl rfl rfl
theorem q_lip1 {E : Env} {B : Nat} {w0 w : World} {ts : List Tok} {H : List Bx} {L : List Tn} {I : Ps Tr} {g m kp kf : Nat} {fa la : Array Value} {H0 : List Bx} (eg : Enters Tryz.prog g) (hs0 : H0.Sublist H) (hI : DoesN E B w0 H0 g fa la I m) (hm : ts.length < m) (hlen : Len I) (hp : (kp, [.pointer (some ⟨E.b, 0, none⟩)], 38) ∈ H) (hf : (kf, [.func (.func g) fa la], 41) ∈ H) (hC : Cx E B w0 w (.p ts) H L) :
    Calls Tryz.prog 83 #[.pointer (some ⟨kp, 0, none⟩), .pointer (some ⟨kf, 0, none⟩)] w ((oL (lsF I ts)).P E B w0 H L) := by
  obtain ⟨o, ho⟩ : ∃ o, lsF I ts = o := ⟨_, rfl⟩
  rw [ho]
  have HO := hidk ho
  clear ho
  go_enter Tryz.func83, Tryz.ntmps83
  go_wp2_with (first
  | refine bL ?_
  | (go_at_call 84; have hD := hC; clear hC; (first | refine useL (q_list eg (fun hs => hI (hs0.trans hs)) hm hlen hD) ?_ ?_); (· intro hF W hM; clear hD; (try simp only [hF] at HO); exact ⟨rfl, stopL HO hM⟩); intro l r hF W ao cap hC; clear hD; (try simp only [hF] at HO); clear hF))
  all_goals first | exact ⟨rfl, stopL HO hC.mv⟩ | (go_ret; exact endL HO (hC.fin mSub mMem mL))
theorem q_lip {E : Env} {B : Nat} {w0 w : World} {ts : List Tok} {H : List Bx} {L : List Tn} {I : Ps Tr} {g m : Nat} {fa la : Array Value} (eg : Enters Tryz.prog g) (hI : DoesN E B w0 H g fa la I m) (hm : ts.length ≤ m) (hlen : Len I) (hC : Cx E B w0 w (.p ts) H L) :
    Calls Tryz.prog 53 #[.pointer (some ⟨E.b, 0, none⟩), .func (.func g) fa la] w ((oL (parF (lsF I) ts)).P E B w0 H L) := by
  obtain ⟨o, ho⟩ : ∃ o, parF (lsF I) ts = o := ⟨_, rfl⟩
  rw [ho]
  have HO := hidk ho
  clear ho
  go_enter Tryz.func53, Tryz.ntmps53
  go_wp2_with (first
  | ((first | refine hC.bP ?_ | refine hC.bN ?_ | refine hC.b1 ?_); clear hC; intro W k hC; (try simp only [pP]))
  | refine bL ?_
  | (go_at_call 82; have hD := hC; clear hC; (first | refine useL (q_parL (I := lsF I) (m := m) ent94 (fun hs hE hl => q_lip1 eg ((List.Sublist.cons _ (List.Sublist.cons _ (List.Sublist.refl _))).trans hs) hI hl hlen (hs.subset (.tail _ (.head _))) (hs.subset (.head _)) hE) hm hD) ?_ ?_); (· intro hF W hM; clear hD; (try simp only [hF] at HO); exact ⟨rfl, stopL HO hM⟩); intro l r hF W ao cap hC; clear hD; (try simp only [hF] at HO); clear hF))
  all_goals first | exact ⟨rfl, stopL HO hC.mv⟩ | (go_ret; exact endL HO (hC.fin mSub mMem mL))
end Go.Proofs.YtaenpacfbheppaaGreatDoor
