/- Rows of values in memory; the walk of keycode.Encode at every row of right values. -/
import Derived.Test.YtjajngngajnnpaaDoorK3B
import Derived.Deep.MidRow
import Derived.Laws.IdiomStrings
namespace Go.Proofs.YtjajngngajnnpaaDoor
open Go.RowKit
set_option linter.unusedVariables false

def cellsV (x : V4) : List Value := [.int .i64 x.1, .int .i64 x.2.1, .string ⟨x.2.2.1.toArray⟩, .bool x.2.2.2]
theorem cellsV_len (x : V4) : (cellsV x).length = 4 := rfl
/-- A row that is read: so many values, and where they lie. -/
def RowIs (w : World) (v : Value) (l : List V4) : Prop :=
  ∃ (ao : Option Addr) (cap : Nat), v = .slice ao l.length cap ∧ l.length ≤ cap ∧ (l = [] ∨ ∃ g, ao = some ⟨g, 0, none⟩ ∧ ∀ k (h : k < l.length), w.rangeAt g (k * 4) (cellsV l[k]))
/-- A row that the call made. -/
def OwnR (base : Nat) (w : World) (v : Value) (l : List V4) : Prop := w.ownsRow base 39 4 v l.length (l.flatMap cellsV)

theorem rangeAt_keep {W w' : World} (hb : Below W.heap.size W w') {b o : Nat} {cs : List Value} (h : W.rangeAt b o cs) : w'.rangeAt b o cs := fun j v hv => cell_keep hb (h j v hv)
theorem RowIs.keep {W w' : World} {v : Value} {l : List V4} (h : RowIs W v l) (hb : Below W.heap.size W w') : RowIs w' v l := by
  obtain ⟨ao, cap, hv, hc, h⟩ := h
  refine ⟨ao, cap, hv, hc, ?_⟩
  rcases h with h | ⟨g, hg, h⟩
  · exact Or.inl h
  · exact Or.inr ⟨g, hg, fun k hk => rangeAt_keep hb (h k hk)⟩
theorem flat_at (l : List V4) (k : Nat) (h : k < l.length) (j : Nat) (hj : j < 4) : (l.flatMap cellsV)[k * 4 + j]? = (cellsV l[k])[j]? := by
  induction l generalizing k with
  | nil => simp at h
  | cons x l ih =>
    rw [List.flatMap_cons]
    cases k with
    | zero =>
      rw [List.getElem?_append_left (by rw [cellsV_len]; omega)]
      simp
    | succ k =>
      rw [List.getElem?_append_right (by rw [cellsV_len]; omega), cellsV_len, show (k + 1) * 4 + j - 4 = k * 4 + j by omega]
      simpa using ih k (by simpa using h)
theorem OwnR.row {base : Nat} {w : World} {v : Value} {l : List V4} (h : OwnR base w v l) : RowIs w v l := by
  obtain ⟨h1, h2⟩ := h
  rcases h2 with ⟨hv, hn⟩ | ⟨g, cap, cur, hv, hg, hh, hc, hm, hs, hx⟩
  · exact ⟨none, 0, by rw [hv, hn], by omega, Or.inl (List.eq_nil_of_length_eq_zero hn)⟩
  · refine ⟨_, cap, hv, hc, Or.inr ⟨g, rfl, fun k hk j u hu => ?_⟩⟩
    have hj : j < 4 := by
      have := (List.getElem?_eq_some_iff.1 hu).1
      rwa [cellsV_len] at this
    rw [← flat_at l k hk j hj, ← hx, List.getElem?_take] at hu
    split at hu
    · rw [cell_of_row w g (k * 4 + j) cur _ _ hh]
      simpa using hu
    · cases hu
theorem RowIs.cap {w : World} {v : Value} {l : List V4} (h : RowIs w v l) : ∃ (ao : Option Addr) (cap : Nat), v = .slice ao l.length cap ∧ l.length ≤ cap := by
  obtain ⟨ao, cap, h1, h2, _⟩ := h
  exact ⟨ao, cap, h1, h2⟩
theorem OwnB.bytes {base : Nat} {w : World} {v : Value} {xs : List UInt8} (h : OwnB base w v xs) : (v = .slice none 0 0 ∧ xs = []) ∨ ∃ g cap, v = .slice (some ⟨g, 0, none⟩) xs.length cap ∧ ∀ j (hj : j < xs.length), w.cell? ((⟨g, 0, none⟩ : Addr).add j) = some (.int .u8 (xs[j].toNat : Int)) := by
  obtain ⟨h1, h2⟩ := h
  rcases h2 with ⟨hv, hn⟩ | ⟨g, cap, cur, hv, hg, hh, hc, hm, hs, hx⟩
  · exact Or.inl ⟨hv, List.eq_nil_of_length_eq_zero hn⟩
  · refine Or.inr ⟨g, cap, hv, fun j hj => ?_⟩
    rw [Addr.add_mid, cell_of_row w g (0 + j) cur _ _ hh]
    have : (cur.toList.take (xs.length * 1))[j]? = some (bv xs[j]) := by rw [hx]; simp [hj]
    rw [List.getElem?_take, if_pos (by omega)] at this
    simpa [bv] using this
theorem len_str (S : ByteArray) : S.data.toList.length = S.size := by simp
theorem infoV : (Tryd.prog.info? 39).map (·.size) = some 4 := by kernel_rfl

theorem codeL_take_len (l : List V4) (k : Nat) : (codeL (l.take k)).length ≤ (codeL l).length := by
  have h : codeL l = codeL (l.take k) ++ codeL (l.drop k) := by rw [← codeL_app, List.take_append_drop]
  rw [h, List.length_append]; omega
theorem codeL_take_succ (l : List V4) (k : Nat) (h : k < l.length) : codeL (l.take (k + 1)) = codeL (l.take k) ++ code1 l[k] := by
  rw [List.take_succ_eq_append_getElem h, codeL_app]; simp [codeL]

set_option maxHeartbeats 1000000 in
theorem encode_any (v : Value) (l : List V4) (w : World) (hrow : RowIs w v l) (hR : Rights l) (hlen : (codeL l).length ≤ 1099511626000) (hs : ∀ x ∈ l, x.2.2.1.length ≤ 1099511627776) (hl : l.length ≤ 1099511627776) :
    Calls Tryd.prog 13 #[v] w fun e w' => e = .returned (.string ⟨(codeL l).toArray⟩) ∧ Below w.heap.size w w' := by
  obtain ⟨ao, cap, rfl, hcap, hcells⟩ := hrow
  go_enter Tryd.func13, Tryd.ntmps13
  go_wp2
  go_loopw [3, 8] (fun u i wr => ∃ k : Nat, k ≤ l.length ∧ i = .int .i64 k ∧ OwnB w.heap.size wr u (codeL (l.take k)) ∧ Below w.heap.size w wr) (fun _ i _ => l.length - (intOf i).toNat)
  case atStart => exact ⟨0, Nat.zero_le _, rfl, World.ownsRow_nil _ _ _ _, Below.refl _ _⟩
  case round =>
    obtain ⟨k, hk, rfl, hown, hnx⟩ := hrel
    have hlen2 := codeL_take_len l k
    by_cases hlt : k < l.length
    · rcases hcells with h0 | ⟨g, rfl, hcells⟩
      · rw [h0] at hlt; simp at hlt
      have hc := rangeAt_keep hnx (hcells k hlt)
      have hmem : l[k] ∈ l := List.getElem_mem hlt
      have hQ := hR _ hmem
      have hsz := hs _ hmem
      have HC : Hid (codeL (l.take (k + 1)) = codeL (l.take k) ++ code1 l[k]) := codeL_take_succ l k hlt
      generalize l[k] = x at *
      clear hmem hcells
      obtain ⟨K, N, S0, B⟩ := x
      obtain ⟨S, hS⟩ : ∃ S : ByteArray, S.data.toList = S0 := ⟨⟨S0.toArray⟩, rfl⟩
      subst hS
      have hc2 : wr.rangeAt g (k * 4) [.int .i64 K, .int .i64 N, .string S, .bool B] := hc
      simp only at hsz
      rw [len_str] at hsz
      clear hc
      have HQ : Hid (RightQ (K, N, S.data.toList, B)) := hQ
      clear hQ
      have hbs : w.heap.size ≤ wr.heap.size := hnx.size
      go_wp2_with (first
        | (refine wpList_load_mid rfl _ _ rfl g (k * 4) (by rfl) [.int .i64 K, .int .i64 N, .string S, .bool B] _ hc2 Tryd.underlying39 rfl infoV ?_)
        | (go_at_call 23; refine (appendValue_any w.heap.size _ (codeL (l.take k)) K N S B _ (hown.alloc _) (by simp; omega) (by omega) HQ.out hsz).mono ?_; rintro e w2 ⟨v2, rfl, hown2, hg2⟩; have h2 := (hnx.alloc hbs _).trans (hg2.below (hown.alloc _) (by simp; omega))))
      clear hg2
      go_roundw
      case rel => exact ⟨k + 1, by omega, by go_num, by rw [HC.out]; exact hown2, h2⟩
      case measure => simp [intOf]; omega
    · obtain rfl : k = l.length := by omega
      rw [List.take_length] at hown
      rcases hown.bytes with ⟨hv, hx⟩ | ⟨g, c, hv, hb⟩
      · have hcv : ∀ w : World, (convert 51 9 (.slice none 0 0)).run Tryd.prog w = .ok (.string ⟨#[]⟩) w := fun w => by
          rw [run_convert_bytes_string w _ _ _ none 0 0 Tryd.underlying51 Tryd.underlying5 Tryd.underlying9]; rfl
        subst hv
        have HX : Hid (codeL l = []) := hx
        clear hx
        go_wp2
        go_ret
        exact ⟨by rw [HX.out]; rfl, hnx⟩
      · have hcv := run_convert_bytes_back wr 51 9 5 ⟨g, 0, none⟩ c (codeL l) Tryd.underlying51 Tryd.underlying5 Tryd.underlying9 hb
        subst hv
        clear hb
        go_wp2
        go_ret
        exact ⟨rfl, hnx⟩
end Go.Proofs.YtjajngngajnnpaaDoor
