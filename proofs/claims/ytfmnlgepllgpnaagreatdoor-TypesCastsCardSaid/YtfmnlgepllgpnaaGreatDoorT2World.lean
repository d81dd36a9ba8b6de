/- What a world holds of Go's library and of the types' names, kept by whatever leaves old memory alone. -/
import Derived.Test.YtfmnlgepllgpnaaGreatDoorT2Is
import Derived.Test.YtfmnlgepllgpnaaGreatDoorT2Assign
import Derived.Lib.LaidTab
namespace Go.Proofs.YtfmnlgepllgpnaaGreatDoor
open Go.RowKit Go.Joins
set_option linter.unusedVariables false

abbrev namesV : Array Value := #[.string ⟨#[]⟩, .string ⟨#[115, 109, 97, 108, 108, 105, 110, 116]⟩, .string ⟨#[105, 110, 116, 101, 103, 101, 114]⟩, .string ⟨#[98, 105, 103, 105, 110, 116]⟩, .string ⟨#[99, 104, 97, 114]⟩, .string ⟨#[118, 97, 114, 99, 104, 97, 114]⟩, .string ⟨#[98, 111, 111, 108, 101, 97, 110]⟩]
theorem gNames : Tryz.prog.globalNamed "stile/types.names" = some 1 := by kernel_rfl
theorem gErr : Tryz.prog.globalNamed "strconv.ErrRange" = some 0 := by kernel_rfl
theorem gTab : Tryz.prog.globalNamed "internal/strconv.uint64pow10" = some 2 := by kernel_rfl
structure LibW (a : Addr) (w : World) : Prop where
  names : w.var? Tryz.prog "stile/types.names" = some namesV
  err : w.var? Tryz.prog "strconv.ErrRange" = some #[.iface 168 (.pointer (some a))]
  tab : Lib.TabIs Tryz.prog w "internal/strconv.uint64pow10" .u64 Lib.pow10Tab
theorem LibW.keep {a : Addr} {w w' : World} (h : LibW a w) (hb : Below w.heap.size w w') : LibW a w' :=
  ⟨var_stays gNames h.names hb (Nat.le_refl _), var_stays gErr h.err hb (Nat.le_refl _), var_stays gTab h.tab hb (Nat.le_refl _)⟩
theorem LibW.alloc {a : Addr} {w : World} (h : LibW a w) (o : Obj) : LibW a (w.alloc o) := h.keep (below_alloc (Below.refl _ _) o)
theorem LibW.cellErr {a : Addr} {w : World} (h : LibW a w) : w.cell? ⟨0, 0, none⟩ = some (.iface 168 (.pointer (some a))) := by
  have h0 := World.var?_cell gErr h.err 0
  simpa using h0
theorem LibW.name {a : Addr} {w : World} (h : LibW a w) (i : Nat) : w.cell? ⟨1, i, none⟩ = namesV[i]? := World.var?_cell gNames h.names i

set_option maxHeartbeats 1000000 in
theorem tread_bad (s : ByteArray) (b l : Int) (w : World) (hs : Hid (s.size ≤ maxLen)) (hn : Hid (isNumL s.data.toList = false)) :
    Calls Tryz.prog 15 #[.string s, typ b l] w fun e w' => e = .returned (.tuple #[nullV, .string sBad]) ∧ Below w.heap.size w w' := by
  go_enter Tryz.func15, Tryz.ntmps15
  go_wp2_with (go_at_call 39; refine (tisnum_any s _ hs.out).mono ?_; rw [hn.out]; rintro e w' ⟨rfl, rfl⟩)
  exact bodyPost_ret (v := .tuple #[nullV, .string sBad]) (by simp [results, Tryz.results15, go_sem]) rfl ⟨rfl, (by repeat (first | exact Below.refl _ _ | assumption | refine Below.alloc ?_ (by first | (simp; done) | (simp; omega)) _ | refine Below.setCell ?_ (by first | (simp; done) | (simp; omega)) _ | refine Below.drew ?_ | refine below_drewN ?_ _))⟩
theorem below_bytes {w w' : World} (h : w' = w ∨ ∃ t, w' = Lib.bytesWorld w 5 t) : Below w.heap.size w w' := by
  rcases h with rfl | ⟨t, rfl⟩
  · exact Below.refl _ _
  · exact below_bytesWorld _ _ _ _ (Nat.le_refl _)
def okN (l : List UInt8) (b : Int) : Bool := in64 (numV l) && fitsT (numV l) b
theorem okN_16 {l : List UInt8} (h : isNumL l = true) : Lib.parseIntB 16 l = if okN l 1 then .ok (numV l) else .range := by
  rw [parseInt_num 16 (Or.inl rfl) l h]
  simp only [okN, in64, fitsT]
  congr 1
  simp
  omega
theorem okN_32 {l : List UInt8} (h : isNumL l = true) : Lib.parseIntB 32 l = if okN l 2 then .ok (numV l) else .range := by
  rw [parseInt_num 32 (Or.inr (Or.inl rfl)) l h]
  simp only [okN, in64, fitsT]
  congr 1
  simp
  omega
theorem okN_64 {l : List UInt8} {b : Int} (h1 : b ≠ 1) (h2 : b ≠ 2) (h : isNumL l = true) : Lib.parseIntB 64 l = if okN l b then .ok (numV l) else .range := by
  rw [parseInt_num 64 (Or.inr (Or.inr rfl)) l h]
  simp only [okN, in64, fitsT]
  congr 1
  simp [h1, h2]
  omega
theorem tparse_ok (s : ByteArray) (b : Int) (w : World) (hs : s.size ≤ 281474976710656) (hn : isNumL s.data.toList = true) (h : okN s.data.toList b = true) :
    Calls Tryz.prog 40 #[.string s, .int .i64 10, .int .i64 (bitsT b)] w fun e w' => e = .returned (.tuple #[.int .i64 (numV s.data.toList), .nilIface]) ∧ Below w.heap.size w w' := by
  by_cases h1 : b = 1
  · subst h1
    exact (Tryz.strconv_ParseInt_10_at16_ok s (by omega) _ (by rw [okN_16 hn, h]; rfl) w).mono fun e w' ⟨he, hw⟩ => ⟨he, below_bytes hw⟩
  · by_cases h2 : b = 2
    · subst h2
      exact (Tryz.strconv_ParseInt_10_at32_ok s (by omega) _ (by rw [okN_32 hn, h]; rfl) w).mono fun e w' ⟨he, hw⟩ => ⟨he, below_bytes hw⟩
    · rw [show bitsT b = 64 by simp [bitsT, h1, h2]]
      exact (Tryz.strconv_ParseInt_10_at64_ok s (by omega) _ (by rw [okN_64 h1 h2 hn, h]; rfl) w).mono fun e w' ⟨he, hw⟩ => ⟨he, below_bytes hw⟩
theorem tparse_out (s : ByteArray) (b : Int) (a : Addr) (w : World) (hs : s.size ≤ 281474976710656) (hn : isNumL s.data.toList = true) (h : okN s.data.toList b = false) (hL : LibW a w) :
    Calls Tryz.prog 40 #[.string s, .int .i64 10, .int .i64 (bitsT b)] w fun e w' => (∃ (z : Int) (N : Nat), w'.cell? ⟨N, 2, none⟩ = some (.iface 168 (.pointer (some a))) ∧ e = .returned (.tuple #[.int .i64 z, .iface 132 (.pointer (some ⟨N, 0, none⟩))])) ∧ Below w.heap.size w w' := by
  by_cases h1 : b = 1
  · subst h1
    refine (Tryz.strconv_ParseInt_10_at16_range_var s hs (by rw [okN_16 hn, h]; rfl) _ _ w hL.err).mono ?_
    rintro e w' ⟨N, he, _, hc, hb⟩
    exact ⟨⟨_, N, by simp [World.cell?, hc], he⟩, hb⟩
  · by_cases h2 : b = 2
    · subst h2
      refine (Tryz.strconv_ParseInt_10_at32_range_var s hs (by rw [okN_32 hn, h]; rfl) _ _ w hL.err).mono ?_
      rintro e w' ⟨N, he, _, hc, hb⟩
      exact ⟨⟨_, N, by simp [World.cell?, hc], he⟩, hb⟩
    · rw [show bitsT b = 64 by simp [bitsT, h1, h2]]
      refine (Tryz.strconv_ParseInt_10_at64_range_var s hs (by rw [okN_64 h1 h2 hn, h]; rfl) _ _ w hL.err).mono ?_
      rintro e w' ⟨N, he, _, hc, hb⟩
      exact ⟨⟨_, N, by simp [World.cell?, hc], he⟩, hb⟩
/-- The two boxes of a call that takes a type and gives a value: the type's, the result's. -/
structure Duo (w W : World) (b l : Int) : Prop where
  d0 : W.cell? ⟨w.heap.size, 0, none⟩ = some (.int .i64 b)
  d1 : W.cell? ⟨w.heap.size, 1, none⟩ = some (.int .i64 l)
  e0 : W.cell? ⟨w.heap.size + 1, 0, none⟩ = some (.int .i64 0)
  e1 : W.cell? ⟨w.heap.size + 1, 1, none⟩ = some (.int .i64 0)
  e2 : W.cell? ⟨w.heap.size + 1, 2, none⟩ = some (.string ⟨#[]⟩)
  e3 : W.cell? ⟨w.heap.size + 1, 3, none⟩ = some (.bool false)
  f0 : W.frozen? ⟨w.heap.size + 1, 0, none⟩ = false
  f1 : W.frozen? ⟨w.heap.size + 1, 1, none⟩ = false
  f2 : W.frozen? ⟨w.heap.size + 1, 2, none⟩ = false
  f3 : W.frozen? ⟨w.heap.size + 1, 3, none⟩ = false
  lt : w.heap.size + 1 < W.heap.size
  below : Below w.heap.size w W
theorem Duo.keep {w W W' : World} {b l : Int} (T : Duo w W b l) (hb : Below W.heap.size W W') : Duo w W' b l :=
  ⟨cell_keep hb T.d0, cell_keep hb T.d1, cell_keep hb T.e0, cell_keep hb T.e1, cell_keep hb T.e2, cell_keep hb T.e3, frozen_keep hb T.lt T.f0, frozen_keep hb T.lt T.f1, frozen_keep hb T.lt T.f2, frozen_keep hb T.lt T.f3, Nat.lt_of_lt_of_le T.lt hb.size, keepA T.below hb⟩
theorem duo_first {w W : World} {b l : Int} {t1 t2 : Nat} (hb : Below ((w.alloc (.cells #[.int .i64 b, .int .i64 l] t1)).alloc (.cells #[.int .i64 0, .int .i64 0, .string ⟨#[]⟩, .bool false] t2)).heap.size ((w.alloc (.cells #[.int .i64 b, .int .i64 l] t1)).alloc (.cells #[.int .i64 0, .int .i64 0, .string ⟨#[]⟩, .bool false] t2)) W) : Duo w W b l := by
  have n : Duo w ((w.alloc (.cells #[.int .i64 b, .int .i64 l] t1)).alloc (.cells #[.int .i64 0, .int .i64 0, .string ⟨#[]⟩, .bool false] t2)) b l := by
    refine ⟨?_, ?_, ?_, ?_, ?_, ?_, ?_, ?_, ?_, ?_, ?_, below_alloc (below_alloc (Below.refl _ _) _) _⟩
    all_goals go_simp
  exact n.keep hb
set_option maxHeartbeats 1000000 in
set_option maxRecDepth 100000 in
theorem tread_ok (s : ByteArray) (b l : Int) (a : Addr) (w : World) (hs : Hid (s.size ≤ 281474976710656)) (hn : Hid (isNumL s.data.toList = true)) (h : Hid (okN s.data.toList b = true)) (hL : LibW a w) :
    Calls Tryz.prog 15 #[.string s, typ b l] w fun e w' => e = .returned (.tuple #[val 1 (numV s.data.toList) ⟨#[]⟩ false, .string sDone]) ∧ Below w.heap.size w w' := by
  go_enter Tryz.func15, Tryz.ntmps15
  go_wp2_with (go_at_call 39; refine (tisnum_any s _ (Nat.le_trans hs.out (by unfold maxLen; omega))).mono ?_; rw [hn.out]; rintro e w' ⟨rfl, rfl⟩)
  refine (tbits_any b l _).mono ?_
  rintro e w1 ⟨rfl, hb⟩
  have T := duo_first hb
  clear hb
  obtain ⟨d0, d1, e0, e1, e2, e3, f0, f1, f2, f3, lt, h1⟩ := id T
  go_wp2_with fail
  refine (tparse_ok s b _ hs.out hn.out h.out).mono ?_
  rintro e w2 ⟨rfl, hb⟩
  replace T := T.keep hb
  have L2 := hL.keep T.below
  clear hb d0 d1 e0 e1 e2 e3 f0 f1 f2 f3 lt h1
  obtain ⟨d0, d1, e0, e1, e2, e3, f0, f1, f2, f3, lt, h1⟩ := id T
  have ce := L2.cellErr
  go_wp2_with (go_at_call 42; refine (is_nil a _).mono ?_; rintro e w' ⟨rfl, rfl⟩)
  exact bodyPost_ret (v := .tuple #[val 1 (numV s.data.toList) ⟨#[]⟩ false, .string sDone]) (by simp [results, Tryz.results15, go_sem, *]) rfl ⟨rfl, (by repeat (first | exact Below.refl _ _ | assumption | refine Below.alloc ?_ (by first | (simp; done) | (simp; omega)) _ | refine Below.setCell ?_ (by first | (simp; done) | (simp; omega)) _ | refine Below.drew ?_ | refine below_drewN ?_ _))⟩
set_option maxHeartbeats 1000000 in
set_option maxRecDepth 100000 in
theorem tread_out (s : ByteArray) (b l : Int) (a : Addr) (w : World) (hs : Hid (s.size ≤ 281474976710656)) (hn : Hid (isNumL s.data.toList = true)) (h : Hid (okN s.data.toList b = false)) (hL : LibW a w) :
    Calls Tryz.prog 15 #[.string s, typ b l] w fun e w' => e = .returned (.tuple #[nullV, .string sOut]) ∧ Below w.heap.size w w' := by
  go_enter Tryz.func15, Tryz.ntmps15
  go_wp2_with (go_at_call 39; refine (tisnum_any s _ (Nat.le_trans hs.out (by unfold maxLen; omega))).mono ?_; rw [hn.out]; rintro e w' ⟨rfl, rfl⟩)
  refine (tbits_any b l _).mono ?_
  rintro e w1 ⟨rfl, hb⟩
  have T := duo_first hb
  clear hb
  obtain ⟨d0, d1, e0, e1, e2, e3, f0, f1, f2, f3, lt, h1⟩ := id T
  go_wp2_with fail
  refine (tparse_out s b a _ hs.out hn.out h.out (hL.keep T.below)).mono ?_
  rintro e w2 ⟨⟨z, N, hN, rfl⟩, hb⟩
  replace T := T.keep hb
  have L2 := hL.keep T.below
  clear hb d0 d1 e0 e1 e2 e3 f0 f1 f2 f3 lt h1
  obtain ⟨d0, d1, e0, e1, e2, e3, f0, f1, f2, f3, lt, h1⟩ := id T
  have ce := L2.cellErr
  go_wp2_with (go_at_call 42; refine (is_wrap_same N a _ hN).mono ?_; rintro e w' ⟨rfl, rfl⟩)
  exact bodyPost_ret (v := .tuple #[nullV, .string sOut]) (by simp [results, Tryz.results15, go_sem, *]) rfl ⟨rfl, (by repeat (first | exact Below.refl _ _ | assumption | refine Below.alloc ?_ (by first | (simp; done) | (simp; omega)) _ | refine Below.setCell ?_ (by first | (simp; done) | (simp; omega)) _ | refine Below.drew ?_ | refine below_drewN ?_ _))⟩
theorem tread_any (s : ByteArray) (b l : Int) (a : Addr) (w : World) (hs : s.size ≤ 281474976710656) (hL : LibW a w) :
    Calls Tryz.prog 15 #[.string s, typ b l] w fun e w' => e = .returned ((readA s.data.toList b).ret) ∧ Below w.heap.size w w' := by
  cases hn : isNumL s.data.toList
  · rw [show readA s.data.toList b = ansNo sBad by simp [readA, hn]]
    exact tread_bad s b l w (Nat.le_trans hs (by unfold maxLen; omega)) hn
  · cases h : okN s.data.toList b
    · rw [show readA s.data.toList b = ansNo sOut by rw [readA, if_pos hn]; exact if_neg (by rw [show (in64 (numV s.data.toList) && fitsT (numV s.data.toList) b) = false from h]; decide)]
      exact tread_out s b l a w hs hn h hL
    · rw [show readA s.data.toList b = ansNum (numV s.data.toList) by rw [readA, if_pos hn]; exact if_pos h]
      exact tread_ok s b l a w hs hn h hL
end Go.Proofs.YtfmnlgepllgpnaaGreatDoor
