/- The document's heap: Scan, New (for HeapPlays). -/
import Derived.Test.YtkmgahembhgloaaH8ZE
import Derived.Deep.OwnRows
namespace Go.Proofs.Ytkmgahembhgloaa
open Go.RowKit Go.Maps
set_option linter.unusedVariables false
set_option linter.unusedSimpArgs false

def idsT (page : Nat) (rs : List (List UInt8)) (i : Nat) : List Int := ((List.range i).filter fun s => decide (0 < (rs.getD s []).length)).map fun s : Nat => (page : Int) * 256 + (s : Int)
theorem idsT_all (page : Nat) (rs : List (List UInt8)) : idsT page rs rs.length = idsR page rs := rfl
theorem idsT_zero (page : Nat) (rs : List (List UInt8)) : idsT page rs 0 = [] := rfl
theorem idsT_hit (page : Nat) (rs : List (List UInt8)) (i : Nat) (h : 0 < (rs.getD i []).length) : idsT page rs (i + 1) = idsT page rs i ++ [(page : Int) * 256 + (i : Int)] := by
  unfold idsT; rw [List.range_succ, List.filter_append]; simp only [List.filter_cons, List.filter_nil, decide_eq_true h, if_true, List.map_append]; rfl
theorem idsT_miss (page : Nat) (rs : List (List UInt8)) (i : Nat) (h : ¬ 0 < (rs.getD i []).length) : idsT page rs (i + 1) = idsT page rs i := by
  unfold idsT; rw [List.range_succ, List.filter_append]; simp only [List.filter_cons, List.filter_nil, decide_eq_false h]; simp
theorem idsT_len (page : Nat) (rs : List (List UInt8)) (i : Nat) : (idsT page rs i).length ≤ i := by
  unfold idsT
  rw [List.length_map]
  have := List.length_filter_le (fun s => decide (0 < (rs.getD s []).length)) (List.range i)
  simpa using this
theorem scanR_le256 {n : Nat} {R : Nat → List (List UInt8)} (hf : ∀ j, j < n → (R j).length ≤ 256) : (scanR n R).length ≤ 256 * n := by
  induction n with
  | zero => simp [scanR]
  | succ n ih =>
    rw [scanR_succ, List.length_append]
    have h1 := ih (fun j hj => hf j (by omega))
    have h2 := idsR_len n (R n)
    have h3 := hf n (by omega)
    omega
/-- append, to a row of numbers, of one more. -/
theorem wp_appI (w : World) {ops : Array Oper} {rest : List Oper} {o : Oper} {a : Act} {Q : Exit → Act → World → Prop} (hgd : o.guard = none) (s x : Operand)
    (ho : o.op = .call { callee := .builtin .append, args := #[s, x], argTypes := #[33, 33] })
    (base : Nat) (v : Value) (n : Nat) (vs : List Value) (hs : a.eval s = v) (hown : w.ownsRow base 3 1 v n vs) (Bk : Nat) (u : Value) (hx : a.eval x = .slice (some ⟨Bk, 0, none⟩) 1 1) (hB : w.heap[Bk]? = some (.cells #[u] 3 (0, 0))) (hu : u.oneCell' = true) (hl : n ≤ 1000000) (hbase : base ≤ w.heap.size)
    (h : ∀ g cap w', w'.ownsRow base 3 1 (.slice (some ⟨g, 0, none⟩) (n + 1) cap) (n + 1) (vs ++ [u]) → w.grownBy w' v.ownBlock → wpList Try.prog ops Q rest (a.put o.dst (.slice (some ⟨g, 0, none⟩) (n + 1) cap)) w') : wpList Try.prog ops Q (o :: rest) a w := by
  obtain ⟨i0, hi, hz0, hz1, hz2⟩ := info_parts infoI
  refine wpList_append_lies w hgd s x 33 ho base 3 i0 (.int .i64 0) 1 8 Try.underlying33 hi hz0 hz1 hz2 rfl (by decide) v n vs hs hown ⟨Bk, 0, none⟩ 1 1 [u] hx rfl (World.news_of_block hB) (by intro y hy; simp at hy; rw [hy]; exact hu) (by decide) (by unfold maxLen; omega) (by omega) hbase w.heap.size rfl ?_
  intro g cap w' h1 h2 h3 _
  exact h g cap w' h1 h2
/-- Where Scan stands: the ids so far, as a row of its own. -/
def SR (w0 w : World) (v : Value) (ids : List Int) : Prop := w.ownsRow w0.heap.size 3 1 v ids.length (ids.map (Value.int .i64)) ∧ Below w0.heap.size w0 w
set_option maxRecDepth 100000 in
set_option maxHeartbeats 4000000 in
theorem refScan_any {base : Nat} {w : World} {ro : Nat → Nat} {rv : Value} {n : Nat} {R : Nat → List (List UInt8)} (h : RefAt base w ro rv n R) (hB : RBd n R) :
    Calls Try.prog 14 #[rv] w fun e w' => ∃ ao m cp, e = .returned (.slice ao m cp) ∧ w'.ownsRow w.heap.size 3 1 (.slice ao m cp) (scanR n R).length ((scanR n R).map (Value.int .i64)) ∧ Below w.heap.size w w' := by
  obtain ⟨rg, gp, cap, PV, VS, rfl, h⟩ := h
  have HI : Hid (RefIn base w ro rg gp cap PV VS n R) := h
  have HB : Hid (RBd n R) := hB
  have hnb := hB.le
  have hcap := h.capLe
  have HZ : Hid (SR w w (.slice none 0 0) (scanR 0 R)) := ⟨⟨rfl, Or.inl ⟨rfl, rfl⟩⟩, Below.refl _ _⟩
  clear h hB
  go_enter Try.func14, Try.ntmps14
  go_wp2_with fail
  go_loopw [3, 4] (fun sv i wr => ∃ (k : Nat) (so : Option Addr) (sn sc : Nat), sv = .slice so sn sc ∧ i = .int .i64 k ∧ k ≤ n ∧ Hid (SR w wr (.slice so sn sc) (scanR k R))) (fun _ i _ => n - (intOf i).toNat)
  case atStart => exact ⟨0, none, 0, 0, rfl, rfl, Nat.zero_le _, HZ⟩
  case round =>
    obtain ⟨k, so, sn, sc, rfl, rfl, hk, HS⟩ := hrel
    rename World => wr
    clear HZ
    have hI := HI.out.keepB HS.out.2
    have c0 := hI.rgCell
    by_cases hlt : k < n
    · have tk : decide ((k : Int) < (n : Int)) = true := decide_eq_true (by omega)
      have HS2 : Hid (SR w wr (.slice so sn sc) (scanR k R ++ idsT k (R k) 0)) := by rw [idsT_zero, List.append_nil]; exact HS.out
      have hlen := scanR_le256 (n := k) (R := R) (fun j hj => HB.out.few j (by omega))
      have hfew := HB.out.few k hlt
      clear HS hI
      go_wp2_with fail
      go_loopw [3, 5] (fun sv i wx => ∃ (t : Nat) (so : Option Addr) (sn sc : Nat), sv = .slice so sn sc ∧ i = .int .i64 t ∧ t ≤ (R k).length ∧ Hid (SR w wx (.slice so sn sc) (scanR k R ++ idsT k (R k) t))) (fun _ i _ => (R k).length - (intOf i).toNat)
      case atStart => exact ⟨0, so, sn, sc, rfl, rfl, Nat.zero_le _, HS2⟩
      case round =>
        obtain ⟨t, so, sn, sc, rfl, rfl, ht, HS⟩ := hrel
        rename World => wx
        clear HS2 c0
        have hI := HI.out.keepB HS.out.2
        have c0 := hI.rgCell
        obtain ⟨c1, _⟩ := hI.rowCell hlt
        obtain ⟨ao, cp, e, hcp, hcl⟩ := hI.page hlt
        rw [e] at c1
        by_cases hlt2 : t < (R k).length
        · have tt : decide ((t : Int) < ((R k).length : Int)) = true := decide_eq_true (by omega)
          rcases hcl with h0 | ⟨g, rfl, hX⟩
          · rw [h0] at hlt2; simp at hlt2
          obtain ⟨vo, vc, c2, _⟩ := hX t hlt2
          have hil := idsT_len k (R k) t
          by_cases hpos : 0 < (R k)[t].length
          · have hh := idsT_hit k (R k) t (by rw [getD_lt hlt2]; exact hpos)
            have tp : decide (((R k)[t].length : Int) > 0) = true := decide_eq_true (by omega)
            have hrow := HS.out.1
            have hbe := HS.out.2
            obtain ⟨L, hL⟩ : ∃ L, scanR k R ++ idsT k (R k) t = L := ⟨_, rfl⟩
            have hLl : L.length ≤ 100000 := by rw [← hL, List.length_append]; omega
            rw [hL] at hrow
            have HH : Hid (scanR k R ++ idsT k (R k) (t + 1) = L ++ [256 * (k : Int) + (t : Int)]) := by rw [hh, ← List.append_assoc, hL, Int.mul_comm]; exact rfl
            have hsn : sn = L.length := by
              rcases hrow.2 with ⟨e, hn⟩ | ⟨g', c', cur, e, _⟩
              · cases e; omega
              · cases e; rfl
            subst hsn
            have hbA : Below wx.heap.size wx (wx.alloc (.cells #[.int .i64 (256 * (k : Int) + (t : Int))] 3)) := (Below.refl _ _).alloc (Nat.le_refl _) _
            have hrA := World.ownsRow.alloc hrow (.cells #[.int .i64 (256 * (k : Int) + (t : Int))] 3)
            have hnb2 := heap_alloc_new wx (.cells #[.int .i64 (256 * (k : Int) + (t : Int))] 3)
            have hsA : w.heap.size ≤ (wx.alloc (.cells #[.int .i64 (256 * (k : Int) + (t : Int))] 3)).heap.size := Nat.le_trans hbe.size hbA.size
            have HST : Hid (∀ (w3 : World) (g' cp' : Nat), w3.ownsRow w.heap.size 3 1 (.slice (some ⟨g', 0, none⟩) (L.length + 1) cp') (L.length + 1) (L.map (Value.int .i64) ++ [.int .i64 (256 * (k : Int) + (t : Int))]) → (wx.alloc (.cells #[.int .i64 (256 * (k : Int) + (t : Int))] 3)).grownBy w3 (Value.slice so L.length sc).ownBlock → SR w w3 (.slice (some ⟨g', 0, none⟩) (L.length + 1) cp') (scanR k R ++ idsT k (R k) (t + 1))) := fun w3 g' cp' g1 g2 => by
              rw [HH.out]
              refine ⟨by simpa using g1, ?_⟩
              have hf : Fr (wx.alloc (.cells #[.int .i64 (256 * (k : Int) + (t : Int))] 3)) w3 (fun i => (Value.slice so L.length sc).ownBlock = some i) := Fr.of_grown g2 (fun i hi => hi)
              exact (hbe.trans (hbA.mono hbe.size)).trans (hf.below hsA (fun i hi => (World.ownsRow.lt hrow i hi).1))
            clear HS hrow hbe hh hX hI e hL HH hbA
            generalize (R k)[t].length = fl at *
            obtain ⟨m, hm⟩ : ∃ m, (R k).length = m := ⟨_, rfl⟩
            rw [hm] at c1 tt hlt2 ht hcp hfew ⊢
            clear hm
            go_wp2_with (at_builtin; refine wp_appI _ rfl _ _ rfl w.heap.size _ L.length (L.map (Value.int .i64)) rfl hrA wx.heap.size (.int .i64 (256 * (k : Int) + (t : Int))) rfl hnb2 rfl (by omega) hsA ?_)
            intro g' cp' w3 g1 g2
            have HS3 : Hid (SR w w3 (.slice (some ⟨g', 0, none⟩) (L.length + 1) cp') (scanR k R ++ idsT k (R k) (t + 1))) := HST.out w3 g' cp' g1 g2
            clear g1 g2 HST hrA hnb2 hsA
            go_wp2_with fail
            go_roundw
            case rel => exact ⟨t + 1, _, _, _, rfl, by go_num, by omega, HS3⟩
            case measure => simp [intOf]; omega
          · have hh := idsT_miss k (R k) t (by rw [getD_lt hlt2]; exact hpos)
            have HS3 : Hid (SR w wx (.slice so sn sc) (scanR k R ++ idsT k (R k) (t + 1))) := by rw [hh]; exact HS.out
            have hz : (R k)[t].length = 0 := by omega
            rw [hz] at c2
            clear HS hh hX hI e hz hpos
            obtain ⟨m, hm⟩ : ∃ m, (R k).length = m := ⟨_, rfl⟩
            rw [hm] at c1 tt hlt2 ht hcp hfew ⊢
            clear hm
            go_wp2_with fail
            go_roundw
            case rel => exact ⟨t + 1, _, _, _, rfl, by go_num, by omega, HS3⟩
            case measure => simp [intOf]; omega
        · obtain rfl : t = (R k).length := by omega
          have HS3 : Hid (SR w wx (.slice so sn sc) (scanR (k + 1) R)) := by rw [scanR_succ, ← idsT_all]; exact HS.out
          clear HS hI hcl e
          generalize (R k).length = m at *
          go_wp2_with fail
          go_roundw
          case rel => exact ⟨k + 1, _, _, _, rfl, by go_num, by omega, HS3⟩
          case measure => simp [intOf]; omega
    · obtain rfl : k = n := by omega
      clear hI
      go_wp2_with fail
      go_ret
      exact ⟨so, sn, sc, rfl, HS.out.1, HS.out.2⟩
theorem infoP : (Try.prog.info? 71).map (fun i => (i.zero, i.size, i.bytes)) = some (some (.slice none 0 0), 1, 24) := by kernel_rfl
theorem makeRowP (n : Nat) (hn : n ≤ 900000) (w : World) : (Instr.makeSlice 61 (.int .i64 (n : Int)) (.int .i64 (n : Int))).run Try.prog w = .ok (.slice (some ⟨w.heap.size, 0, none⟩) n n) (w.alloc (.cells (madeCells #[.slice none 0 0] n) 71)) :=
  run_make_row' 61 71 (.slice none 0 0) 24 Try.underlying61 infoP rfl .i64 .i64 n (by omega) (by omega) w
theorem refNew_at (base : Nat) (w : World) (n : Nat) (hn : n ≤ 900000) (hb : base ≤ w.heap.size) : RefIn base ((w.alloc (.cells (madeCells #[.slice none 0 0] n) 71)).alloc (.cells #[.slice (some ⟨w.heap.size, 0, none⟩) n n] 63)) (fun i => if i = w.heap.size then 2 else if i = w.heap.size + 1 then 1 else 0) (w.heap.size + 1) w.heap.size n (fun _ => .slice none 0 0) (fun _ => []) n (fun _ => []) := by
  have hs1 : (w.alloc (.cells (madeCells #[.slice none 0 0] n) 71)).heap.size = w.heap.size + 1 := by simp
  have hs2 : ((w.alloc (.cells (madeCells #[.slice none 0 0] n) 71)).alloc (.cells #[.slice (some ⟨w.heap.size, 0, none⟩) n n] 63)).heap.size = w.heap.size + 2 := by simp
  refine ⟨fun i hi => ?_, fun i hi => ?_, ?_, ?_, ?_, ?_, fun j hj => ⟨rfl, Or.inl ⟨rfl, rfl⟩⟩, (fun j hj c hc => by cases hc), (fun j hj i hi => by simp at hi)⟩
  · rw [hs2] at hi
    show (if i = w.heap.size then 2 else if i = w.heap.size + 1 then 1 else 0) = 0
    rw [if_neg (by omega), if_neg (by omega)]
  · by_cases e1 : i = w.heap.size
    · omega
    · by_cases e2 : i = w.heap.size + 1
      · omega
      · exact absurd (show (if i = w.heap.size then 2 else if i = w.heap.size + 1 then 1 else 0) = 0 by rw [if_neg e1, if_neg e2]) hi
  · have := heap_alloc_new (w.alloc (.cells (madeCells #[.slice none 0 0] n) 71)) (.cells #[.slice (some ⟨w.heap.size, 0, none⟩) n n] 63)
    rw [hs1] at this
    exact this
  · show (if w.heap.size + 1 = w.heap.size then 2 else if w.heap.size + 1 = w.heap.size + 1 then 1 else 0) = 1
    rw [if_neg (by omega), if_pos rfl]
  · exact if_pos rfl
  · refine World.ownsRow.alloc ?_ _
    refine ⟨by simp, Or.inr ⟨w.heap.size, n, madeCells #[.slice none 0 0] n, rfl, hb, heap_alloc_new w _, Nat.le_refl _, by unfold maxLen; omega, by rw [size_madeCells, Nat.mul_one], ?_⟩⟩
    rw [toList_madeCells_one, List.take_of_length_le (by rw [List.length_replicate]; omega)]
    apply List.ext_getElem?
    intro i
    by_cases hi : i < n
    · simp [hi]
    · rw [List.getElem?_eq_none (by simp; omega), List.getElem?_eq_none (by simp; omega)]
set_option maxHeartbeats 2000000 in
theorem refNew_any (base : Nat) (n : Nat) (hn : n ≤ 256) (w : World) (hb : base ≤ w.heap.size) :
    Calls Try.prog 10 #[.int .i64 n] w fun e w' => ∃ rg ro, e = .returned (.pointer (some ⟨rg, 0, none⟩)) ∧ RefAt base w' ro (.pointer (some ⟨rg, 0, none⟩)) n (fun _ => []) ∧ Below w.heap.size w w' ∧ ∀ i, ro i ≠ 0 → w.heap.size ≤ i := by
  have hmk := makeRowP n (by omega) w
  have HR := refNew_at base w n (by omega) hb
  have hB : Below w.heap.size w ((w.alloc (.cells (madeCells #[.slice none 0 0] n) 71)).alloc (.cells #[.slice (some ⟨w.heap.size, 0, none⟩) n n] 63)) := ((Below.refl _ _).alloc (Nat.le_refl _) _).alloc (by simp) _
  have HQ : Hid (RefIn base ((w.alloc (.cells (madeCells #[.slice none 0 0] n) 71)).alloc (.cells #[.slice (some ⟨w.heap.size, 0, none⟩) n n] 63)) (fun i => if i = w.heap.size then 2 else if i = w.heap.size + 1 then 1 else 0) (w.heap.size + 1) w.heap.size n (fun _ => .slice none 0 0) (fun _ => []) n (fun _ => [])) := HR
  have HB : Hid (Below w.heap.size w ((w.alloc (.cells (madeCells #[.slice none 0 0] n) 71)).alloc (.cells #[.slice (some ⟨w.heap.size, 0, none⟩) n n] 63))) := hB
  clear HR hB
  go_enter Try.func10, Try.ntmps10
  go_wp2_with fail
  go_ret
  refine ⟨w.heap.size + 1, _, rfl, ⟨_, _, _, _, _, rfl, HQ.out⟩, HB.out, fun i hi => ?_⟩
  by_cases e1 : i = w.heap.size
  · omega
  · by_cases e2 : i = w.heap.size + 1
    · omega
    · exact absurd (show (if i = w.heap.size then 2 else if i = w.heap.size + 1 then 1 else 0) = 0 by rw [if_neg e1, if_neg e2]) hi
end Go.Proofs.Ytkmgahembhgloaa
