/- The walk of the document's own reading of a number. -/
import Derived.Test.YtfmnlgepllgpnaaGreatDoorT2RefNum
import Derived.Deep.Cut
import Derived.Deep.DeepCutAuto
namespace Go.Proofs.YtfmnlgepllgpnaaGreatDoor
open Go.RowKit
set_option linter.unusedVariables false

theorem negG {w w1 : World} {K N : Int} {S : ByteArray} {B : Bool} {t : Nat} (hb : Below (((w.alloc (.cells #[.int .i64 K, .int .i64 N, .string S, .bool B] t)).alloc (.cells #[.int .i64 0, .int .i64 0, .string ⟨#[]⟩, .bool false] t)).drew).heap.size (((w.alloc (.cells #[.int .i64 K, .int .i64 N, .string S, .bool B] t)).alloc (.cells #[.int .i64 0, .int .i64 0, .string ⟨#[]⟩, .bool false] t)).drew) w1) :
    Box w1 w.heap.size K N S B ∧ Box w1 (w.heap.size + 1) 0 0 ⟨#[]⟩ false ∧ Open4 w1 (w.heap.size + 1) ∧ Below w.heap.size w w1 := by
  have d : Below ((w.alloc (.cells #[.int .i64 K, .int .i64 N, .string S, .bool B] t)).alloc (.cells #[.int .i64 0, .int .i64 0, .string ⟨#[]⟩, .bool false] t)).heap.size ((w.alloc (.cells #[.int .i64 K, .int .i64 N, .string S, .bool B] t)).alloc (.cells #[.int .i64 0, .int .i64 0, .string ⟨#[]⟩, .bool false] t)) w1 := (Below.drew (Below.refl _ _)).trans hb
  refine ⟨((Box.new w K N S B t).alloc _).keep d, (Box.newAt 0 0 ⟨#[]⟩ false t (by simp)).keep d, (Open4.newAt 0 0 ⟨#[]⟩ false t (by simp)).keep (by simp) d, ?_⟩
  exact (below_alloc (below_alloc (Below.refl _ _) _) _).trans (d.mono (by simp; omega))
set_option maxHeartbeats 2000000 in
theorem refNeg_of (N k m : Int) (st : ByteArray) (w : World) (G : ∀ w : World, Calls Tryz.prog 57 #[val 1 0 ⟨#[]⟩ false, val 1 N ⟨#[]⟩ false] w fun e w' => e = .returned (.tuple #[val k m ⟨#[]⟩ false, .string st]) ∧ Below w.heap.size w w') :
    Calls Tryz.prog 58 #[val 1 N ⟨#[]⟩ false] w fun e w' => e = .returned (.tuple #[val k m ⟨#[]⟩ false, .string st]) ∧ Below w.heap.size w w' := by
  go_enter Tryz.func58, Tryz.ntmps58
  go_wp2_with fail
  go_region_with (first
    | (go_at_call 20; refine (num_any _ _).mono ?_; rintro e w1 ⟨rfl, hb⟩; obtain ⟨t1, t2, t3, t4⟩ := negG hb; clear hb; obtain ⟨e0, e1, e2, e3⟩ := t1)
    | (go_at_call 57; refine (G _).mono ?_; rintro e w2 ⟨rfl, hb⟩; have u2 := t2.keep hb; have u3 := t3.keep t2.lt hb; have u4 := keepA t4 hb; clear hb t2 t3 t4; obtain ⟨f0, f1, f2, f3⟩ := u2; obtain ⟨g0, g1, g2, g3⟩ := u3))
  all_goals
    go_wp2
    exact bodyPost_ret (v := .tuple #[val k m ⟨#[]⟩ false, .string st]) (by simp [results, Tryz.results58, go_sem, *]) rfl ⟨rfl, by repeat (first | assumption | refine Below.setCell ?_ (by first | (simp; done) | (simp; omega)) _)⟩

theorem Open4.set4 {W : World} {p q : Nat} {K N : Int} {S : ByteArray} {B : Bool} (h : Open4 W q) : Open4 (set4 W p K N S B) q := by
  unfold Go.Proofs.YtfmnlgepllgpnaaGreatDoor.set4
  exact ⟨by simp only [World.frozen?_setCell]; exact h.f0, by simp only [World.frozen?_setCell]; exact h.f1, by simp only [World.frozen?_setCell]; exact h.f2, by simp only [World.frozen?_setCell]; exact h.f3⟩
/-- What the reading of a number keeps: the number so far, the result's variable, the type's. -/
structure NumW (w wr : World) (b l K N : Int) : Prop where
  n : Box wr (w.heap.size + 1 + 1) K N ⟨#[]⟩ false
  no : Open4 wr (w.heap.size + 1 + 1)
  r : Box wr (w.heap.size + 1) 0 0 ⟨#[]⟩ false
  ro : Open4 wr (w.heap.size + 1)
  t : TB wr w.heap.size b l
  below : Below w.heap.size w wr
theorem NumW.keep {w wr w' : World} {b l K N : Int} (h : NumW w wr b l K N) (hb : Below wr.heap.size wr w') : NumW w w' b l K N :=
  ⟨h.n.keep hb, h.no.keep h.n.lt hb, h.r.keep hb, h.ro.keep h.r.lt hb, h.t.keep hb, keepA h.below hb⟩
theorem NumW.drew {w wr : World} {b l K N : Int} (h : NumW w wr b l K N) : NumW w wr.drew b l K N := h.keep (Below.refl _ _).drew
theorem NumW.set {w wr : World} {b l K N : Int} (h : NumW w wr b l K N) (K' N' : Int) : NumW w (set4 wr (w.heap.size + 1 + 1) K' N' ⟨#[]⟩ false) b l K' N' :=
  ⟨set4_box h.n _ _ _ _, h.no.set4, set4_keep h.r (by omega), h.ro.set4, h.t.set4 (by omega), set4_below h.below (by omega)⟩
theorem numW_new (w : World) (b l : Int) : NumW w (((w.alloc (.cells #[.int .i64 b, .int .i64 l] 26)).alloc (.cells #[.int .i64 0, .int .i64 0, .string ⟨#[]⟩, .bool false] 29)).alloc (.cells #[.int .i64 1, .int .i64 0, .string ⟨#[]⟩, .bool false] 29)) b l 1 0 :=
  ⟨Box.newAt _ _ _ _ _ (by simp), Open4.newAt _ _ _ _ _ (by simp), (Box.newAt 0 0 ⟨#[]⟩ false _ (by simp)).alloc _, (Open4.newAt 0 0 ⟨#[]⟩ false _ (by simp)).keep (by simp) (below_alloc (Below.refl _ _) _), ((TB.newAt b l _ rfl).alloc _).alloc _, below_alloc (below_alloc (below_alloc (Below.refl _ _) _) _) _⟩
theorem digV_snoc (l : List UInt8) (c : UInt8) : digV 0 (l ++ [c]) = digV 0 l * 10 + (c.toNat - 48) := by simp [digV]
theorem digV_take (U : ByteArray) (k : Nat) (h : k < U.size) : digV 0 (U.data.toList.take (k + 1)) = digV 0 (U.data.toList.take k) * 10 + (U[k].toNat - 48) := by
  rw [List.take_succ_eq_append_getElem (by simpa using h), digV_snoc]; rfl
theorem all_take (U : ByteArray) (k : Nat) (h : k < U.size) (ha : (U.data.toList.take k).all isDig = true) (hd : isDig U[k] = true) : (U.data.toList.take (k + 1)).all isDig = true := by
  rw [List.take_succ_eq_append_getElem (by simpa using h), List.all_append, ha]
  show (true && ([U[k]].all isDig)) = true
  simp [hd]
theorem not_dig (U : ByteArray) (k : Nat) (h : k < U.size) (hd : isDig U[k] = false) : U.data.toList.all isDig = false := by
  rw [List.all_eq_false]
  exact ⟨U[k], List.getElem_mem (l := U.data.toList) (by simpa using h), by simp [hd]⟩
/-- The answer, out of the digits' text and the sign. -/
def numR (u : List UInt8) (minus : Bool) (b : Int) : Ans := if (decide (1 ≤ u.length) && decide (u.length ≤ 400) && u.all isDig) = true then (if in64 (if minus then -(digV 0 u : Int) else digV 0 u) && fitsT (if minus then -(digV 0 u : Int) else digV 0 u) b then ansNum (if minus then -(digV 0 u : Int) else digV 0 u) else ansNo sOut) else ansNo sBad
theorem read_num (l : List UInt8) (b : Int) : readA l b = numR (unsign l) (isMinus l) b := by
  unfold readA numR isNumL numV; rfl

theorem isDig_is {c : UInt8} (h1 : ¬ (c.toNat : Int) < 48) (h2 : ¬ (57 : Int) < (c.toNat : Int)) : isDig c = true := by
  simp [isDig]; omega
theorem isDig_lo {c : UInt8} (h1 : (c.toNat : Int) < 48) : isDig c = false := by
  simp [isDig]; omega
theorem isDig_hi {c : UInt8} (h1 : (57 : Int) < (c.toNat : Int)) : isDig c = false := by
  simp [isDig]; omega
theorem numR_bad {u : List UInt8} {m : Bool} {b : Int} (h : (decide (1 ≤ u.length) && decide (u.length ≤ 400) && u.all isDig) = false) : numR u m b = ansNo sBad := by
  unfold numR; rw [h]; rfl
theorem numR_good {u : List UInt8} {m : Bool} {b : Int} (h1 : 1 ≤ u.length) (h4 : u.length ≤ 400) (ha : u.all isDig = true) : numR u m b = (if in64 (if m then -(digV 0 u : Int) else digV 0 u) && fitsT (if m then -(digV 0 u : Int) else digV 0 u) b then ansNum (if m then -(digV 0 u : Int) else digV 0 u) else ansNo sOut) := by
  unfold numR
  rw [if_pos (by simp [h1, h4, ha])]
theorem numR_minus {U : ByteArray} {b N : Int} (hz : ¬ U.size = 0) (h4 : ¬ 400 < U.size) (ha : U.data.toList.all isDig = true) (hN : N = -(digV 0 U.data.toList : Int)) (hB : -9223372036854775808 ≤ N ∧ N ≤ 0) :
    (fitsT N b = true → numR U.data.toList true b = ansNum N) ∧ (fitsT N b = false → numR U.data.toList true b = ansNo sOut) := by
  have hl : U.data.toList.length = U.size := by simp
  rw [numR_good (by omega) (by omega) ha]
  simp only [if_true]
  rw [← hN]
  have h64 : in64 N = true := by unfold in64; simp; omega
  exact ⟨fun h => by rw [h64, h]; rfl, fun h => by rw [h64, h]; rfl⟩
theorem numR_plus {U : ByteArray} {b N : Int} (hz : ¬ U.size = 0) (h4 : ¬ 400 < U.size) (ha : U.data.toList.all isDig = true) (hN : N = -(digV 0 U.data.toList : Int)) (hB : -9223372036854775808 ≤ N ∧ N ≤ 0) (hm : -9223372036854775808 < N) :
    (fitsT (-N) b = true → numR U.data.toList false b = ansNum (-N)) ∧ (fitsT (-N) b = false → numR U.data.toList false b = ansNo sOut) := by
  have hl : U.data.toList.length = U.size := by simp
  rw [numR_good (by omega) (by omega) ha]
  have hV : (digV 0 U.data.toList : Int) = -N := by omega
  rw [hV]
  have h64 : in64 (-N) = true := by unfold in64; simp; omega
  exact ⟨fun h => by simp [h64, h], fun h => by simp [h64, h]⟩
theorem numR_big {U : ByteArray} {b : Int} {m : Bool} (hz : ¬ U.size = 0) (h4 : ¬ 400 < U.size) (ha : U.data.toList.all isDig = true) (h : (m = true ∧ 9223372036854775808 < digV 0 U.data.toList) ∨ (m = false ∧ 9223372036854775808 ≤ digV 0 U.data.toList)) : numR U.data.toList m b = ansNo sOut := by
  have hl : U.data.toList.length = U.size := by simp
  rw [numR_good (by omega) (by omega) ha]
  have h64 : in64 (if m then -(digV 0 U.data.toList : Int) else digV 0 U.data.toList) = false := by
    rcases h with ⟨rfl, h⟩ | ⟨rfl, h⟩
    · unfold in64; simp; omega
    · unfold in64; simp; omega
  rw [h64]; rfl
end Go.Proofs.YtfmnlgepllgpnaaGreatDoor
