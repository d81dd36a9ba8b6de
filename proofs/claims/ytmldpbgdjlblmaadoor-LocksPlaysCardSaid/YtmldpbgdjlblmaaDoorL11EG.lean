/- Who keeps a request waiting, each once, in rising order: slices.AppendSeq, Collect, Sorted over an iterator that holds blocks of its own; slices.Compact. Who waits for whom: the program's Edges. -/
import Derived.Test.YtmldpbgdjlblmaaDoorL11EN
import Derived.Test.YtmldpbgdjlblmaaDoorL11ER
import Derived.Test.YtmldpbgdjlblmaaDoorIter
import Derived.Lib.SlKeysI
import Derived.Test.YtmldpbgdjlblmaaDoorL11J
/- Who keeps a request waiting, each once, in rising order: slices.AppendSeq, Collect, Sorted over an iterator that holds blocks of its own; slices.Compact. -/
namespace Go.Proofs.YtmldpbgdjlblmaaDoor
open Go.RowKit Go.Joins Go.Maps Go.Shelf Go.Sort
set_option linter.unusedVariables false
set_option linter.unusedSimpArgs false
attribute [local go_sem] Oper.semAt_some

/-- Numbers in a row of one's own. -/
abbrev IntsAt (base : Nat) (W : World) (v : Value) (zs : List Int) : Prop := W.ownsRow base 3 1 v zs.length (zs.map (Value.int .i64))
/-- Where AppendSeq's loop stands. -/
structure AsI (w : World) (f : Nat → Int) (m : Nat) (pre : List Nat) (V : World) : Prop where
  gr : ∃ gv, Boxed V w.heap.size 40 gv ∧ IntsAt m V gv (pre.map f)
  b : Below w.heap.size w V
  lo : w.heap.size ≤ m
theorem AsI.own {w : World} {f : Nat → Int} {B : Nat} (hB : w.heap.size ≤ B) (m : Nat) : OwnFrom B (AsI w f m) := fun pre A C row hs hg hr => by
  refine ⟨?_, (ownFrom_below (β := Unit) (B := B) (Nat.le_refl _) hB) () A C row hs.b hg hr, hs.lo⟩
  obtain ⟨gv, hv, hrow⟩ := hs.gr
  refine ⟨gv, hv.kept hg (fun e' => ?_), hrow.kept hg ?_⟩
  · obtain ⟨_, o, ho, hc⟩ := hr _ e'.symm
    rw [show A.heap[w.heap.size]? = _ from hv] at ho; cases ho; cases hc
  · rcases hrow.2 with ⟨rfl, _⟩ | ⟨g, cap, cur, rfl, _, hgb, _⟩
    · exact .inl rfl
    · refine .inr fun e' => ?_
      obtain ⟨_, o, ho, hc⟩ := hr g (by simpa [Value.ownBlock] using e'.symm)
      rw [hgb] at ho; cases ho; cases hc
set_option maxRecDepth 100000 in
set_option maxHeartbeats 4000000 in
theorem apseq_fn {w : World} {f : Nat → Int} {lb : Array Value} {Y : List Nat} {Sp : List Nat → Prop} (hY : Y.length ≤ 100000)
    (hseq : SeqM Fence.wide 8 Tryd.prog 63 lb (fun k => #[.int .i64 (f k)]) (fun _ W => Below w.heap.size w W) (fun ys => ys = Y) Sp 100000 w) :
    Calls Tryd.prog 75 #[.slice none 0 0, .func (.func 63) #[] lb] w fun e w' => ∃ v, e = .returned v ∧ IntsAt w.heap.size w' v (Y.map f) ∧ Below w.heap.size w w' := by
  refine (callsIn_wide (n := 9)).1 ?_
  refine callsIn_of_wp_marks Tryd.func75 rfl trivial ?_ rfl
  simp only [Tryd.ntmps75, List.size_toArray, List.length_cons, List.length_nil, Nat.reduceAdd, Nat.reduceSub, Array.replicate_succ, Array.replicate_zero, List.push_toArray, List.append_toArray, List.nil_append, List.cons_append]
  have hbw : Below w.heap.size w (w.alloc (.cells #[.slice none 0 0] 40)) := (Below.refl _ _).alloc (Nat.le_refl _) _
  have bx := Boxed.new w 40 (.slice none 0 0)
  have hs1 : (w.alloc (.cells #[.slice none 0 0] 40)).heap.size = w.heap.size + 1 := by simp
  generalize hw1 : w.alloc (.cells #[.slice none 0 0] 40) = w1 at *
  gi_wp2_with fail
  clear hw1
  refine wpIn_rangeM (F := Fence.wide) (n := 9) rfl (by omega) (gf := 63) rfl trivial enters_ag1 hseq hbw (fun _ => rfl)
    (AsI w f) (fun _ _ _ => False) (fun m => AsI.own (by omega) m) (fun _ _ _ _ _ hs _ _ => hs) (fun m pre V hs => hs.b)
    (fun m V hb h1 h2 => ⟨⟨_, (hb.block _ (by omega)).trans bx, World.ownsRow_nil _ _ _ _⟩, hbw.trans (hb.mono (by omega)), by omega⟩)
    (fun (x : Nat) => { tmps := #[.slice none 0 0, .func (.func 63) #[] lb, .pointer (some ⟨w.heap.size, 0, none⟩), undef, .slice none 0 0, .int .i64 (f x), .func (.func 63) #[] lb, .int .i64 (f x), undef, undef, undef, undef, undef], defers := [] }) ?assign ?body ?done ?stop
  case assign =>
    intro l x W K hK
    gi_wp2
    simpa using hK
  case body =>
    rintro l m pre x V hm1 hm2 ⟨⟨gv, hv, hrow⟩, hB, hlo⟩ hlt
    have hmap : (pre ++ [x]).map f = pre.map f ++ [f x] := by simp
    have hlen : (pre.map f).length ≤ 100000 := by rw [List.length_map]; omega
    have HM := Hid.mk' hmap
    clear hmap
    generalize pre.map f = zs at *
    obtain ⟨i0, hi, hz0, hz1, hz2⟩ := info_parts infoI11
    have hgvB : ∀ c, gv.ownBlock = some c → m ≤ c := fun c hc => (ownGe hrow c hc).1
    have hgvN : gv.ownBlock ≠ some w.heap.size := fun e => by have := hgvB _ e; omega
    have hc := hv.cell
    gi_wp2_with (gi_at_builtin; refine wpListIn_append_own_at _ rfl _ _ 40 rfl m 3 i0 (.int .i64 0) 1 8 Tryd.underlying40 hi hz0 hz1 hz2 rfl (by decide) _ _ _ rfl (hrow.alloc _) ⟨V.heap.size, 0, none⟩ 1 1 [.int .i64 (f x)] rfl rfl (cell_one_new _ _ _) (by simp [Value.oneCell']) (by unfold maxLen; omega) (by omega) (by simp; omega) ?_; intro v' w2 hown' hgrow _ hat; obtain ⟨g', cap', rfl⟩ := ownsRow_succ hown'; obtain ⟨hv1, hA⟩ := app8 hv hgvN hrow (by omega) hown' hgrow (hat.imp id (fun e k hk => by rw [e] at hk; simp at hk; omega)); have hc1 := hv1.cell; have hf1 := hv1.frozen)
    refine ⟨hA.oth.from _, fun b h1 h2 => hA.grown b (by omega) (by omega) (fun e => by have := hgvB _ e; omega), ⟨⟨_, hA.box, ?_⟩, hB.trans (hA.below w.heap.size (Nat.le_refl _) (by omega) hB.size), hlo⟩⟩
    rw [HM.out]
    simpa [IntsAt] using hA.row
  case done =>
    rintro D m ys V hD hys ⟨⟨gv, hv, hrow⟩, hB, hlo⟩ hK
    subst hys
    have hc := hv.cell
    have hgl : ∃ ao n cp, gv = .slice ao n cp := by
      rcases hrow.2 with ⟨e, _⟩ | ⟨g, cap', cur, e, _⟩
      · exact ⟨_, _, _, e⟩
      · exact ⟨_, _, _, e⟩
    obtain ⟨ao9, m9, cp9, rfl⟩ := hgl
    have HT := Hid.mk' (And.intro hrow hB)
    clear hrow hB hseq
    gi_wp2
    obtain ⟨hrow, hB⟩ := HT.out
    refine ⟨by simp, .inl ⟨_, _, rfl, run_takeDeferred hK, ?_⟩⟩
    exact ⟨_, results_tmp rfl _ _ _, _, rfl, own_base (ownsRow_putObj hrow _ hK rfl) hlo, hB.trans (belowK_b (w := w) (Nat.le_refl _) _ D _ _ (by omega) hK rfl rfl)⟩
  case stop =>
    rintro D c pre V _ _ hf _
    exact hf.elim
theorem IntsAt.form {base : Nat} {W : World} {v : Value} {zs : List Int} (h : IntsAt base W v zs) : ∃ ao cap, v = .slice ao zs.length cap := by
  rcases h.2 with ⟨e, hn⟩ | ⟨g, cap', cur, e, _⟩
  · exact ⟨none, 0, by rw [e, hn]⟩
  · exact ⟨_, _, e⟩
theorem collect_fn {w : World} {f : Nat → Int} {lb : Array Value} {Y : List Nat} {Sp : List Nat → Prop} (hY : Y.length ≤ 100000)
    (hseq : SeqM Fence.wide 8 Tryd.prog 63 lb (fun k => #[.int .i64 (f k)]) (fun _ W => Below w.heap.size w W) (fun ys => ys = Y) Sp 100000 w) :
    Calls Tryd.prog 61 #[.func (.func 63) #[] lb] w fun e w' => ∃ v, e = .returned v ∧ IntsAt w.heap.size w' v (Y.map f) ∧ Below w.heap.size w w' := by
  have ha := apseq_fn hY hseq
  clear hseq
  generalize Y.map f = zs at *
  go_enter Tryd.func61, Tryd.ntmps61
  go_wp2_with fail
  refine ha.mono ?_
  rintro e w1 ⟨v, rfl, hi, hb⟩
  obtain ⟨ao, cap, rfl⟩ := hi.form
  have H := Hid.mk' (And.intro hi hb)
  clear ha hi hb
  go_wp2_with fail
  go_ret
  exact ⟨_, rfl, H.out⟩
/-- The numbers of a list in order. -/
abbrev srt (l : List Int) : List Int := l.mergeSort fun x y => decide (x ≤ y)
/-- slices.Sort of a row of one's own. -/
theorem sort_fn {base : Nat} {W : World} {v : Value} {zs : List Int} (h : IntsAt base W v zs) (hb : base ≤ W.heap.size) (hl : zs.length ≤ 100000) :
    Calls Tryd.prog 62 #[v] W fun e w' => e = .returned (.tuple #[]) ∧ IntsAt base w' v (srt zs) ∧ Below base W w' := by
  rcases id h.2 with ⟨rfl, hz⟩ | ⟨g, cap, cur, rfl, hbase, hgb, r1, r2, r3, r4⟩
  · have hss : zs = [] := List.eq_nil_of_length_eq_zero hz
    subst hss
    exact (AnyM.slices_Sort_int_none Tryd.sortA none 0 W).mono (fun e w' ⟨he, hw⟩ => ⟨he, by rw [hw]; simpa [srt] using h, by rw [hw]; exact Below.refl _ _⟩)
  · have hH : Holds (Value.int .i64) W g 0 zs.toArray := holds_of_block_i hgb (by simpa using r4)
    have hgl : g < W.heap.size := (Array.getElem?_eq_some_iff.1 hgb).1
    have hsz : zs.length < 4611686018427387904 := by omega
    refine (AnyM.slices_Sort_int Tryd.sortA g 0 cap zs W hH hgl hsz).mono ?_
    rintro e w' ⟨he, nn, os, rfl⟩
    refine ⟨he, ?_, (Below.refl base W).grown (grownBy_sorted_i _) hb (fun j hj => by cases hj; exact hbase)⟩
    have := ownsRow_sorted_i (n := nn) (os := os) (ts := srt zs) (by simp) hbase hgb r1 r2 r3
    show World.ownsRow _ _ _ _ _ _ _
    rw [show (srt zs).length = zs.length by simp]
    exact this
theorem sorted_fn {w : World} {f : Nat → Int} {lb : Array Value} {Y : List Nat} {Sp : List Nat → Prop} (hY : Y.length ≤ 100000)
    (hseq : SeqM Fence.wide 8 Tryd.prog 63 lb (fun k => #[.int .i64 (f k)]) (fun _ W => Below w.heap.size w W) (fun ys => ys = Y) Sp 100000 w) :
    Calls Tryd.prog 46 #[.func (.func 63) #[] lb] w fun e w' => ∃ v, e = .returned v ∧ IntsAt w.heap.size w' v (srt (Y.map f)) ∧ Below w.heap.size w w' := by
  have ha := collect_fn hY hseq
  have hzl : (Y.map f).length ≤ 100000 := by rw [List.length_map]; exact hY
  clear hseq
  generalize Y.map f = zs at *
  go_enter Tryd.func46, Tryd.ntmps46
  go_wp2_with fail
  refine ha.mono ?_
  rintro e w1 ⟨v, rfl, hi, hb⟩
  have hs := sort_fn hi hb.size hzl
  obtain ⟨ao, cap, rfl⟩ := hi.form
  have HB := Hid.mk' hb
  clear ha hi hb
  go_wp2_with fail
  refine hs.mono ?_
  rintro e w2 ⟨rfl, hi2, hb2⟩
  have H := Hid.mk' (And.intro hi2 (HB.out.trans hb2))
  clear hs hi2 hb2 HB
  go_wp2_with fail
  go_ret
  exact ⟨_, rfl, H.out⟩
/-- Numbers as they are read. -/
structure NList (W : World) (ao : Option Addr) (cap : Nat) (zs : List Int) : Prop where
  le : zs.length ≤ cap
  row : zs = [] ∨ ∃ g, ao = some ⟨g, 0, none⟩ ∧ ∀ j (h : j < zs.length), W.cell? ⟨g, j, none⟩ = some (.int .i64 zs[j])
theorem NList.keep {w w' : World} {ao : Option Addr} {cap : Nat} {zs : List Int} (h : NList w ao cap zs) (hb : Below w.heap.size w w') : NList w' ao cap zs :=
  ⟨h.le, h.row.imp id (fun ⟨g, e, hX⟩ => ⟨g, e, fun k hk => cell_keep hb (hX k hk)⟩)⟩
theorem NList.at_ {W : World} {ao : Option Addr} {cap : Nat} {zs : List Int} (h : NList W ao cap zs) {j : Nat} (hj : j < zs.length) : ∃ g, ao = some ⟨g, 0, none⟩ ∧ W.cell? ⟨g, j, none⟩ = some (.int .i64 zs[j]) := by
  rcases h.row with h0 | ⟨g, e, hX⟩
  · rw [h0] at hj; simp at hj
  · exact ⟨g, e, hX j hj⟩
theorem compact_len (zs : List Int) : (Lib.compact zs).length ≤ zs.length := by
  unfold Lib.compact Lib.compactUpTo
  rw [List.length_map]
  have := List.length_filter_le (Lib.keeps zs.toArray) (List.range zs.length)
  simpa using this
/-- slices.Compact of a row of one's own. -/
theorem compact_fn {base : Nat} {W : World} {v : Value} {zs : List Int} (h : IntsAt base W v zs) (hb : base ≤ W.heap.size) :
    Calls Tryd.prog 48 #[v] W fun e w' => ∃ ao cap, e = .returned (.slice ao (Lib.compact zs).length cap) ∧ NList w' ao cap (Lib.compact zs) ∧ (∀ g, ao = some ⟨g, 0, none⟩ → base ≤ g) ∧ Below base W w' := by
  have hcl := compact_len zs
  rcases id h.2 with ⟨rfl, hz⟩ | ⟨g, cap, cur, rfl, hbase, hgb, r1, r2, r3, r4⟩
  · have hss : zs = [] := List.eq_nil_of_length_eq_zero hz
    subst hss
    refine (AnyG.slices_Compact_int_empty Tryd.compactA none 0 W).mono (fun e w' ⟨he, hw⟩ => ⟨none, 0, ?_, ⟨by simpa using hcl, Or.inl ?_⟩, (fun g e => by cases e), by rw [hw]; exact Below.refl _ _⟩)
    · rw [he]; simp [Lib.compact, Lib.compactUpTo]
    · simp [Lib.compact, Lib.compactUpTo]
  · have hH : Holds (Value.int .i64) W g 0 zs.toArray := holds_of_block_i hgb (by simpa using r4)
    have hsz : zs.length ≤ 9223372036854775807 := by unfold maxLen at r2; omega
    refine (AnyG.slices_Compact_int Tryd.compactA g 0 cap zs W hH hsz r1).mono ?_
    rintro e w' ⟨he, q, hw⟩
    have hw2 : w' = grow (putRow (Value.int .i64) (Sort.ahead W q) g 0 (Lib.compact zs ++ List.replicate (zs.length - (Lib.compact zs).length) 0).toArray) #[] := by rw [grow_empty]; exact hw
    clear hw
    subst hw2
    have ho := ownsRow_sorted_i (n := q) (os := #[]) (ss := zs) (ts := Lib.compact zs ++ List.replicate (zs.length - (Lib.compact zs).length) 0) (by simp; omega) hbase hgb r1 r2 r3
    refine ⟨some ⟨g, 0, none⟩, cap, he, ⟨by omega, Or.inr ⟨g, rfl, fun j hj => ?_⟩⟩, (fun g' e => by cases e; exact hbase), (Below.refl base W).grown (grownBy_sorted_i _) hb (fun j hj => by cases hj; exact hbase)⟩
    have := World.ownsRow.cells ho (g := g) rfl j (.int .i64 (Lib.compact zs)[j]) (by
      rw [List.map_append, List.getElem?_append_left (by simpa using hj), List.getElem?_map, List.getElem?_eq_getElem hj]; rfl)
    rwa [Addr.add_mid, Nat.zero_add] at this
/-- What stands in order, each once. -/
theorem compact_inv {d : Array Int} (hs : ∀ a b, a ≤ b → b < d.size → d[a]! ≤ d[b]!) : ∀ m, m ≤ d.size → (Lib.compactUpTo d m).Pairwise (· < ·) ∧ ∀ x, x ∈ Lib.compactUpTo d m ↔ ∃ j, j < m ∧ d[j]! = x := by
  intro m
  induction m with
  | zero => intro _; exact ⟨by simp [Lib.compactUpTo], fun x => by simp [Lib.compactUpTo]⟩
  | succ m ih =>
    intro hm
    obtain ⟨h1, h2⟩ := ih (by omega)
    rw [Lib.compactUpTo_succ]
    cases hk : Lib.keeps d m with
    | true =>
      simp only [if_true]
      refine ⟨?_, fun x => ?_⟩
      · rw [List.pairwise_append]
        refine ⟨h1, List.pairwise_singleton _ _, fun a ha b hb => ?_⟩
        rw [List.mem_singleton.1 hb]
        obtain ⟨j, hj, rfl⟩ := (h2 a).1 ha
        have q1 := hs j (m - 1) (by omega) (by omega)
        have q2 := hs (m - 1) m (by omega) (by omega)
        simp only [Lib.keeps, decide_eq_true_eq] at hk
        rcases hk with hk | hk
        · omega
        · omega
      · rw [List.mem_append, h2 x, List.mem_singleton]
        constructor
        · rintro (⟨j, hj, e⟩ | e)
          · exact ⟨j, by omega, e⟩
          · exact ⟨m, by omega, e.symm⟩
        · rintro ⟨j, hj, e⟩
          by_cases hjm : j = m
          · subst hjm; exact Or.inr e.symm
          · exact Or.inl ⟨j, by omega, e⟩
    | false =>
      simp only [Bool.false_eq_true, if_false, List.append_nil]
      refine ⟨h1, fun x => ?_⟩
      rw [h2 x]
      simp only [Lib.keeps, decide_eq_false_iff_not, not_or] at hk
      constructor
      · rintro ⟨j, hj, e⟩; exact ⟨j, by omega, e⟩
      · rintro ⟨j, hj, e⟩
        by_cases hjm : j = m
        · subst hjm; exact ⟨j - 1, by omega, by rw [← Classical.not_not.1 hk.2]; exact e⟩
        · exact ⟨j, by omega, e⟩
theorem compact_sd (ss : List Int) : Lib.compact (srt ss) = sd ss := by
  have tr : ∀ a b c : Int, decide (a ≤ b) = true → decide (b ≤ c) = true → decide (a ≤ c) = true := fun a b c h1 h2 => by simp only [decide_eq_true_eq] at *; omega
  have tt : ∀ a b : Int, (decide (a ≤ b) || decide (b ≤ a)) = true := fun a b => by simp only [Bool.or_eq_true, decide_eq_true_eq]; omega
  have hp := List.pairwise_iff_getElem.1 (List.pairwise_mergeSort tr tt ss)
  have hg : ∀ a, a < (srt ss).length → ∀ h : a < (srt ss).length, (srt ss).toArray[a]! = (srt ss)[a] := fun a ha h => by
    rw [getElem!_pos _ _ (by simpa using ha)]; simp
  have hs : ∀ a b, a ≤ b → b < (srt ss).toArray.size → (srt ss).toArray[a]! ≤ (srt ss).toArray[b]! := fun a b hab hb => by
    have hb' : b < (srt ss).length := by simpa using hb
    rw [hg a (by omega) (by omega), hg b hb' hb']
    by_cases e : a = b
    · subst e; omega
    · have := hp a b (show a < (srt ss).length by omega) hb' (by omega)
      simpa using this
  obtain ⟨h1, h2⟩ := compact_inv hs (srt ss).length (by simp)
  refine sorted_unique h1 (sd_sorted ss) (fun x => ?_)
  show x ∈ Lib.compactUpTo _ _ ↔ _
  rw [h2 x, mem_sd]
  constructor
  · rintro ⟨j, hj, e⟩
    rw [hg j hj hj] at e
    have := List.getElem_mem hj
    rw [e] at this
    simpa [srt] using this
  · intro hx
    have hx' : x ∈ srt ss := by simpa [srt] using hx
    obtain ⟨j, hj, e⟩ := List.getElem_of_mem hx'
    exact ⟨j, hj, by rw [hg j hj hj]; exact e⟩
end Go.Proofs.YtmldpbgdjlblmaaDoor

/- Who waits for whom: the program's Edges. -/
namespace Go.Proofs.YtmldpbgdjlblmaaDoor
open Go.RowKit Go.Joins Go.Maps Go.Shelf Go.Sort
set_option linter.unusedVariables false
set_option linter.unusedSimpArgs false
attribute [local go_sem] Oper.semAt_some

/-- A slice of things of z cells in a box, one more appended. -/
structure App8z (z : Nat) (W W2 : World) (n₀ B : Nat) (t e : TypeId) (v v' : Value) (m : Nat) (ys : List Value) : Prop where
  box : Boxed W2 B t v'
  row : W2.ownsRow n₀ e z v' m ys
  oth : KeepsOthers W W2
  grown : ∀ k, k < W.heap.size → k ≠ B → v.ownBlock ≠ some k → W2.heap[k]? = W.heap[k]?
  own : v'.ownBlock = v.ownBlock ∨ ∀ k, v'.ownBlock = some k → W.heap.size ≤ k
  below : ∀ b0, b0 ≤ B → b0 ≤ n₀ → b0 ≤ W.heap.size → Below b0 W W2
theorem app8z {z : Nat} {W w1 : World} {n₀ B : Nat} {t e : TypeId} {v v' : Value} {k m : Nat} {xs ys : List Value} {tmp : Obj}
    (hv : Boxed W B t v) (hB : v.ownBlock ≠ some B) (hrow : W.ownsRow n₀ e z v k xs) (hn₀ : n₀ ≤ W.heap.size)
    (hown' : w1.ownsRow n₀ e z v' m ys) (hgrow : (W.alloc tmp).grownBy w1 v.ownBlock) (hat : v'.ownBlock = v.ownBlock ∨ ∀ k, v'.ownBlock = some k → W.heap.size ≤ k) :
    Boxed w1 B t v ∧ App8z z W (w1.setCell ⟨B, 0, none⟩ v') n₀ B t e v v' m ys := by
  have hv1 : Boxed w1 B t v := (hv.alloc tmp).kept hgrow (fun e => hB e.symm)
  have hlt := hv.lt
  have hB' : v'.ownBlock ≠ some B := fun e' => by
    rcases hat with h | h
    · exact hB (h ▸ e')
    · have := h B e'; omega
  refine ⟨hv1, hv1.set v', hown'.kept (grownBy_setCell' w1 B v') (.inr fun e' => hB' (by rw [e'])), ?_, ?_, hat, ?_⟩
  · refine ((KeepsOthers.alloc W tmp).trans (KeepsOthers.of_grownBy hgrow fun j o ej hj => ?_)).trans (KeepsOthers.setCell _ _ _)
    rcases (hrow.alloc tmp).2 with ⟨rfl, _⟩ | ⟨g, cap, cur, rfl, _, hgb, _⟩
    · simp [Value.ownBlock] at ej
    · obtain rfl : g = j := by simpa [Value.ownBlock] using ej
      rw [hgb] at hj; cases hj; rfl
  · intro j hj hjB hjo
    rw [Below.heap_setCell _ _ _ j (fun e => hjB e), hgrow.block j (by simp; omega) (fun e => hjo e.symm), Below.heap_alloc W tmp j hj]
  · intro b0 h1 h2 h3
    refine (((Below.refl b0 W).alloc h3 tmp).grown hgrow (by simp; omega) fun j ej => ?_).setCell (p := ⟨B, 0, none⟩) h1 v'
    have := (World.ownsRow.lt hrow j ej).1
    omega
/-- Whom a request waits for, each once, rising. -/
def bkS (L : List Rq) (k : Nat) : List Int := sd ((fbk L k L.length).map fun j => (atR L j).tx)
def edK (L : List Rq) (k : Nat) : List (Int × Int) := (bkS L k).map fun t => ((atR L k).tx, t)
def edP (L : List Rq) (pre : List Nat) : List (Int × Int) := pre.flatMap (edK L)
theorem ins_lenE (x : Int) (l : List Int) : (ins x l).length ≤ l.length + 1 := by
  induction l with
  | nil => simp [ins]
  | cons a l ih =>
    unfold ins
    split
    · simp
    · split
      · simp
      · simp only [List.length_cons]; omega
theorem sd_lenE (l : List Int) : (sd l).length ≤ l.length := by
  induction l with
  | nil => simp [sd]
  | cons a l ih =>
    show (ins a (sd l)).length ≤ _
    have := ins_lenE a (sd l)
    simp only [List.length_cons]
    omega
theorem fbk_len (L : List Rq) (i k : Nat) : (fbk L i k).length ≤ k := by
  unfold fbk
  have := List.length_filter_le (fun j => bkP L i (atR L i) j (atR L j)) (List.range k)
  simpa using this
theorem bkS_len (L : List Rq) (k : Nat) : (bkS L k).length ≤ L.length := by
  unfold bkS
  have h1 := sd_lenE ((fbk L k L.length).map fun j => (atR L j).tx)
  rw [List.length_map] at h1
  have := fbk_len L k L.length
  omega
theorem edP_len (L : List Rq) (pre : List Nat) : (edP L pre).length ≤ pre.length * L.length := by
  induction pre with
  | nil => simp [edP]
  | cons k l ih =>
    have h : edP L (k :: l) = edK L k ++ edP L l := by simp [edP]
    have := bkS_len L k
    rw [h, List.length_append, List.length_cons, Nat.succ_mul]
    have e : (edK L k).length = (bkS L k).length := by simp [edK]
    omega
/-- Where Edges' loop stands. -/
structure EdI (w3 : World) (L : List Rq) (Bg : Nat) (pre : List Nat) (V : World) : Prop where
  gr : ∃ gv, Boxed V Bg 45 gv ∧ OwnP w3.heap.size V gv (edP L pre)
  fr : Fr w3 V (fun b => b = Bg)
theorem EdI.own {w3 : World} {L : List Rq} {Bg : Nat} : OwnFrom w3.heap.size (EdI w3 L Bg) := fun pre A C row hs hg hr => by
  refine ⟨?_, hs.fr.trans (Fr.of_grown (F := fun k => row = some k) hg (fun k e => e)) (fun k e => Or.inr (hr k e).1)⟩
  obtain ⟨gv, hv, hrow⟩ := hs.gr
  refine ⟨gv, hv.kept hg (fun e' => ?_), hrow.kept hg ?_⟩
  · obtain ⟨_, o, ho, hc⟩ := hr _ e'.symm
    rw [show A.heap[Bg]? = _ from hv] at ho; cases ho; cases hc
  · rcases hrow.2 with ⟨rfl, _⟩ | ⟨g, cap, cur, rfl, _, hgb, _⟩
    · exact .inl rfl
    · refine .inr fun e' => ?_
      obtain ⟨_, o, ho, hc⟩ := hr g (by simpa [Value.ownBlock] using e'.symm)
      rw [hgb] at ho; cases ho; cases hc
/-- Where the loop over one request's others stands. -/
structure EdJ (w3 V : World) (L : List Rq) (Bg b8 : Nat) (pre : List Nat) (k : Nat) (ao : Option Addr) (cap j : Nat) (W : World) : Prop where
  gr : ∃ gv, Boxed W Bg 45 gv ∧ OwnP w3.heap.size W gv (edP L pre ++ (edK L k).take j) ∧ (∀ c, gv.ownBlock = some c → c ≠ b8 ∧ ∀ g, ao = some ⟨g, 0, none⟩ → c ≠ g)
  fr : Fr w3 W (fun b => b = Bg)
  kf : KeepsFrom w3.heap.size V W
  nl : NList W ao cap (bkS L k)
  bx : W.cell? ⟨b8, 0, none⟩ = some (.int .i64 (atR L k).tx)
set_option maxRecDepth 100000 in
set_option maxHeartbeats 4000000 in
theorem pedges_any {base : Nat} {w : World} {t : Nat} {most : Int} {lv : Value} {L : List Rq} (h : TOwn base w t most lv L) (hL : LibB base w) (hlen : L.length ≤ 2000) :
    Calls Tryd.prog 21 #[.pointer (some ⟨t, 0, none⟩)] w fun e w' => ∃ v, e = .returned v ∧ OwnP w.heap.size w' v (edP L (fil (fun r => !r.gr) L L.length)) ∧ Below w.heap.size w w' := by
  refine (callsIn_wide (n := 9)).1 ?_
  refine callsIn_of_wp_marks Tryd.func21 rfl trivial ?_ rfl
  simp only [Tryd.ntmps21, List.size_toArray, List.length_cons, List.length_nil, Nat.reduceAdd, Nat.reduceSub, Array.replicate_succ, Array.replicate_zero, List.push_toArray, List.append_toArray, List.nil_append, List.cons_append]
  have htw : t < w.heap.size := (Array.getElem?_eq_some_iff.1 h.tb).1
  have hb1 : Below w.heap.size w (w.alloc (.cells #[.pointer (some ⟨t, 0, none⟩)] 23)) := (Below.refl _ _).alloc (Nat.le_refl _) _
  have k0 := (cell_new_l w (.pointer (some ⟨t, 0, none⟩)) 23).1
  have hs1 : (w.alloc (.cells #[.pointer (some ⟨t, 0, none⟩)] 23)).heap.size = w.heap.size + 1 := by simp
  generalize hw1 : w.alloc (.cells #[.pointer (some ⟨t, 0, none⟩)] 23) = w1 at *
  have hb2 : Below w1.heap.size w1 (w1.alloc (.cells #[.slice none 0 0] 45)) := (Below.refl _ _).alloc (Nat.le_refl _) _
  have bxg := Boxed.new w1 45 (.slice none 0 0)
  have k1 := cell_keep hb2 k0
  have hs2 : (w1.alloc (.cells #[.slice none 0 0] 45)).heap.size = w1.heap.size + 1 := by simp
  generalize hw2 : w1.alloc (.cells #[.slice none 0 0] 45) = w2 at *
  gi_wp2_with fail
  refine ⟨trivial, (callsIn_wide.2 (those_any _ _ _ _)).mono ?_⟩
  rintro e w3 ⟨rfl, hw3⟩
  obtain ⟨d1, d2, hb3⟩ := box_two w2 (.pointer (some ⟨t, 0, none⟩)) (.func (.func 45) #[] #[]) 23 69
  rw [← hw3] at d1 d2 hb3
  have hs3 : w3.heap.size = w2.heap.size + 2 := by rw [hw3]; simp
  have bxg3 : Boxed w3 w1.heap.size 45 (.slice none 0 0) := (hb3.block _ (by omega)).trans bxg
  clear hw3 hw2 hw1
  rw [hs1] at bxg3
  rw [hs2, hs1] at d1 d2
  have kb := cell_keep hb3 k1
  have hbw : Below w.heap.size w w3 := keepA (keepA hb1 hb2) hb3
  have T3 := h.keepB hbw
  have hL3 := hL.keepB hbw
  obtain ⟨ao2, cap2, hlvE, hQ3⟩ := T3.tab
  gi_wp2_with fail
  have hkb : ∀ (V : World) (pre : List Nat), EdI w3 L (w.heap.size + 1) pre V → ∀ b, b < w3.heap.size → b ≠ (w.heap.size + 1) → V.heap[b]? = w3.heap[b]? := fun V pre hs b h2 h3 => hs.fr.block b h2 (fun e => h3 e)
  have hkB : ∀ (V : World) (pre : List Nat), EdI w3 L (w.heap.size + 1) pre V → Below w.heap.size w V := fun V pre hs => hbw.trans (hs.fr.below (by omega) (fun b e => by omega))
  have hTh : ∀ (V : World) (pre : List Nat), EdI w3 L (w.heap.size + 1) pre V → ThRd V (w.heap.size + 1 + 1) (w.heap.size + 1 + 1 + 1) t ao2 L (fun r => !r.gr) 45 #[] pre := fun V pre hs => by
    refine ⟨(World.cell?_of_block (a := ⟨w.heap.size + 1 + 1, 0, none⟩) (hkb V pre hs (w.heap.size + 1 + 1) (by omega) (by omega))).trans d1, (World.cell?_of_block (a := ⟨w.heap.size + 1 + 1 + 1, 0, none⟩) (hkb V pre hs (w.heap.size + 1 + 1 + 1) (by omega) (by omega))).trans d2, fun k hk hp => ?_, fun r => ?_⟩
    · obtain ⟨ao', cap', e1, hQ⟩ := (h.keepB (hkB V pre hs)).tab
      rw [hlvE] at e1
      simp only [Value.slice.injEq, true_and] at e1
      obtain ⟨rfl, rfl⟩ := e1
      obtain ⟨g, e2, hq⟩ := hQ.at_ hk
      rw [← atR_lt hk] at hq
      exact ⟨g, e2, hq⟩
    · show Calls _ _ (#[r.v] ++ #[]) _ _
      rw [Array.append_empty]
      exact waits_fn r V
  refine wpIn_rangeX (F := Fence.wide) (n := 9) rfl (by omega) (gf := 60) (lb := #[.pointer (some ⟨w.heap.size + 1 + 1, 0, none⟩), .pointer (some ⟨w.heap.size + 1 + 1 + 1, 0, none⟩)]) rfl trivial enters_those1
    (those_seq 8 (by omega) (w.heap.size + 1 + 1) (w.heap.size + 1 + 1 + 1) t hQ3.le (by omega) (fun r => !r.gr) 45 #[] enters_ws w3 hQ3.l) (Below.refl _ _) (fun _ => rfl)
    (EdI w3 L (w.heap.size + 1)) (fun _ _ _ => False) EdI.own (fun _ _ _ _ _ hs _ _ => hs) (fun pre V hs => hTh V pre hs)
    ⟨⟨_, bxg3, World.ownsRow_nil _ _ _ _⟩, Fr.refl _ _⟩
    (fun (k : Nat) a' V => ∃ b8, V.heap[b8]? = some (atR L k).box ∧ w3.heap.size ≤ b8 ∧ a' = { tmps := #[.pointer (some ⟨t, 0, none⟩), .pointer (some ⟨w.heap.size, 0, none⟩), .slice none 0 0, .pointer (some ⟨(w.heap.size + 1), 0, none⟩), .int .i64 (k : Int), .pointer (some ⟨b8, 0, none⟩), undef, undef, undef, .pointer (some ⟨t, 0, none⟩), .func (.func 60) #[] #[.pointer (some ⟨w.heap.size + 1 + 1, 0, none⟩), .pointer (some ⟨w.heap.size + 1 + 1 + 1, 0, none⟩)], .int .i64 (k : Int), (atR L k).v, undef, undef, undef, undef, undef, undef, undef, undef, undef, undef, undef, undef, undef, undef, undef, undef, undef, undef, undef, undef], defers := [] })
    (fun k a' => Own.from (fun s A C row hs hg' hr => by
      obtain ⟨b8, hq8, h2, ha⟩ := hs
      refine ⟨b8, (hg'.block b8 (Array.getElem?_eq_some_iff.1 hq8).1 (fun e => ?_)).trans hq8, h2, ha⟩
      obtain ⟨o, ho, hc⟩ := hr b8 e.symm
      rw [hq8] at ho; cases ho; cases hc) _)
    ?assign ?body ?done ?stop
  case assign =>
    intro l' pre k V K hI hK
    have hI2 := EdI.own.alloc (atR L k).box hI
    have hbq := World.alloc_heap_new V (atR L k).box
    have hk2 := fun a' h => hK a' (V.alloc (atR L k).box) ((KeepsOthers.alloc V _).from _) hI2 h
    have hvs : w3.heap.size ≤ V.heap.size := hI.fr.size
    clear hK
    show Code.wpIn _ _ _ _ _ _ _
    unfold encR
    generalize atR L k = r at *
    obtain ⟨xt, ⟨sa, ta, la, ua, na⟩, xm, xg, xs⟩ := r
    clear hs1 hs2 hs3
    gi_wp2
    exact Array.getElem_eq_iff.2 hbq
  case body =>
    rintro l' pre k a' V hdm hI ⟨b8, hq8, hb8, rfl⟩ hlt
    obtain ⟨hkl, hkp, hkj⟩ := hdm
    have hbV := hkB V pre hI
    have kV := (World.cell?_of_block (a := ⟨w.heap.size, 0, none⟩) (hkb V pre hI w.heap.size (by omega) (by omega))).trans kb
    obtain ⟨aoV, capV, eV, hQV⟩ := (h.keepB hbV).tab
    have hLV := hL.lib.keep hbV
    have hs5 : w3.heap.size ≤ w.heap.size + 4 := by omega
    have hs6 : w.heap.size + 4 ≤ w3.heap.size := by omega
    clear hs1 hs2 hs3
    have HI := Hid.mk' hI
    clear hTh hkB hkb d1 d2 bxg bxg3 k0 k1 kb T3 hL3 hQ3 hI
    gi_wp2_with fail
    refine ⟨trivial, (CallsIn.inRound l' (callsIn_wide.2 (against_any _ _ _))).mono ?_⟩
    rintro e V2 ⟨rfl, hV2⟩
    obtain ⟨c1, c2, hb2V⟩ := box_two V (.pointer (some ⟨t, 0, none⟩)) (.int .i64 k) 23 3
    rw [← hV2] at c1 c2 hb2V
    clear hV2
    have hso := sorted_fn (by have := fbk_len L k L.length; omega) (against1_in (hQV.keep hb2V) (hLV.keep hb2V) (by omega) hkl c1 c2 8 (by omega))
    have HB2 := Hid.mk' hb2V
    clear c1 c2 hQV hLV hb2V
    gi_wp2_with fail
    refine ⟨trivial, (CallsIn.inRound l' (callsIn_wide.2 hso)).mono ?_⟩
    rintro e V3 ⟨v3, rfl, hi3, hb3V⟩
    have hcs : Lib.compact (srt ((fbk L k L.length).map fun j => (atR L j).tx)) = bkS L k := compact_sd _
    generalize srt ((fbk L k L.length).map fun j => (atR L j).tx) = zs at *
    have hcf := compact_fn hi3 hb3V.size
    rw [hcs] at hcf
    clear hcs
    obtain ⟨a3, c3, rfl⟩ := hi3.form
    have HB3 := Hid.mk' hb3V
    clear hso hi3 hb3V
    gi_wp2_with fail
    refine ⟨trivial, (CallsIn.inRound l' (callsIn_wide.2 hcf)).mono ?_⟩
    rintro e V4 ⟨a4, c4, rfl, hn4, hg4, hb4V⟩
    have HB4 : Hid (Below V.heap.size V V4) := HB2.out.trans ((HB3.out.trans hb4V).mono HB2.out.size)
    have hc4 := hn4.le
    have hbl := bkS_len L k
    have HJ : Hid (EdJ w3 V L (w.heap.size + 1) b8 pre k a4 c4 0 V4) := by
      obtain ⟨gv, hv, hrow⟩ := HI.out.gr
      refine ⟨⟨gv, (HB4.out.block _ hv.lt).trans hv, ?_, fun c hc => ⟨fun e => ?_, fun g e => ?_⟩⟩, HI.out.fr.trans (Fr.of_below (F := fun _ => False) HB4.out) (fun _ e => e.elim), ⟨HB4.out.size, fun b o hb ho hc => (HB4.out.block b (Array.getElem?_eq_some_iff.1 ho).1).trans ho⟩, hn4, ?_⟩
      · simp only [List.take_zero, List.append_nil]
        exact own_of_block hrow (fun c hc => HB4.out.block c (Row.lo hrow c hc).2)
      · subst e
        rcases hrow.2 with ⟨rfl, _⟩ | ⟨g', cap', cur, rfl, _, hgb, _⟩
        · cases hc
        · obtain rfl : g' = c := by simpa [Value.ownBlock] using hc
          rw [hgb] at hq8
          simp [Rq.box] at hq8
      · have h1 := (Row.lo hrow c hc).2
        have h2 := hg4 g e
        have h3 := HB2.out.size
        omega
      · rw [World.cell?_of_block (w := V) (w' := V4) (a := ⟨b8, 0, none⟩) (HB4.out.block b8 (Array.getElem?_eq_some_iff.1 hq8).1), cell_of_row V b8 0 _ _ _ hq8]
        rfl
    have HG4 : Hid (∀ g, a4 = some ⟨g, 0, none⟩ → w3.heap.size ≤ g) := fun g e => by
      have h1 := hg4 g e
      have h2 := HB2.out.size
      have h3 := HI.out.fr.size
      omega
    clear hcf hg4 hn4 hb4V HB2 HB3 HB4
    have hEl : (edP L pre).length + (bkS L k).length ≤ 300000000 := by
      have h1 := edP_len L pre
      have h2 : pre.length * L.length ≤ 100000 * 2000 := Nat.mul_le_mul (by omega) hlen
      omega
    have hkN : (edK L k).length = (bkS L k).length := by simp [edK]
    gi_wp2_with fail
    gi_loopw [20] (fun x wr => ∃ j : Nat, x = .int .i64 j ∧ j ≤ (bkS L k).length ∧ Hid (EdJ w3 V L (w.heap.size + 1) b8 pre k a4 c4 j wr)) (fun x _ => (bkS L k).length - (intOf x).toNat)
    case atStart => exact ⟨0, rfl, by omega, HJ⟩
    case round =>
      rename World => wr
      obtain ⟨j, rfl, hj, HJ2⟩ := hrel
      clear HJ
      by_cases hjl : j < (bkS L k).length
      · have tj : (j : Int) < ((bkS L k).length : Int) := by omega
        obtain ⟨gv, hv, hrow, hsep⟩ := HJ2.out.gr
        obtain ⟨g, rfl, cz⟩ := HJ2.out.nl.at_ hjl
        have hbx := HJ2.out.bx
        have hgw := HG4.out g rfl
        have hglt := World.block_lt_of_cell? wr _ cz
        have hblt := World.block_lt_of_cell? wr _ hbx
        have hwr : w3.heap.size ≤ wr.heap.size := HJ2.out.fr.size
        have htk : (edK L k).take (j + 1) = (edK L k).take j ++ [((atR L k).tx, (bkS L k)[j])] := by
          rw [List.take_succ_eq_append_getElem (by omega)]
          simp [edK]
        have hEE : edP L pre ++ (edK L k).take (j + 1) = (edP L pre ++ (edK L k).take j) ++ [((atR L k).tx, (bkS L k)[j])] := by rw [htk, List.append_assoc]
        have HEE := Hid.mk' hEE
        clear htk hEE
        have hgvB : ∀ c, gv.ownBlock = some c → w3.heap.size ≤ c := fun c hc => (Row.lo hrow c hc).1
        have hgvN : gv.ownBlock ≠ some (w.heap.size + 1) := fun e => by have := hgvB _ e; omega
        have hnl := HJ2.out.nl
        have HF := Hid.mk' (And.intro HJ2.out.fr HJ2.out.kf)
        have hEl2 : (edP L pre ++ (edK L k).take j).length ≤ 300000000 := by
          rw [List.length_append, List.length_take]
          omega
        have hc := hv.cell
        obtain ⟨i0, hi, hz0, hz1, hz2⟩ := info_parts infoP
        have HNL := Hid.mk' hnl
        clear hnl HJ2 hEl
        have HXT0 : Hid ((atR L k).tx = (atR L k).tx) := rfl
        generalize edP L pre ++ (edK L k).take j = EE at *
        generalize hxt : (atR L k).tx = xt at *
        have HXT := Hid.mk' hxt
        clear hxt HXT0
        generalize (bkS L k)[j] = zz at *
        gi_wp2_with (gi_at_builtin; refine wpListIn_append_own_at _ rfl _ _ 45 rfl w3.heap.size 55 i0 (.agg #[.int .i64 0, .int .i64 0]) 2 16 Tryd.underlying45 hi hz0 hz1 hz2 rfl (by decide) _ _ _ rfl (World.ownsRow.alloc hrow _) ⟨wr.heap.size, 0, none⟩ 1 1 [.int .i64 xt, .int .i64 zz] rfl rfl (World.news_of_block (heap_alloc_new wr _)) (by simp [Value.oneCell']) (by unfold maxLen; omega) (by omega) (by simp; omega) ?_; intro v' w9 hown' hgrow _ hat; obtain ⟨g', cap', rfl⟩ := ownsRow_succ hown'; obtain ⟨hv1, hA⟩ := app8z hv hgvN hrow (by omega) hown' hgrow (hat.imp id (fun e k hk => by rw [e] at hk; simp at hk; omega)); have hc1 := hv1.cell; have hf1 := hv1.frozen)
        have hsz := hA.oth.size
        have HN : Hid (EdJ w3 V L (w.heap.size + 1) b8 pre k (some ⟨g, 0, none⟩) c4 (j + 1) (w9.setCell ⟨w.heap.size + 1, 0, none⟩ (.slice (some ⟨g', 0, none⟩) (EE.length + 1) cap'))) := by
          refine ⟨⟨_, hA.box, ?_, fun c hc => ?_⟩, ?_, HF.out.2.trans (hA.oth.from _), ⟨HNL.out.le, Or.inr ⟨g, rfl, fun i hi => ?_⟩⟩, ?_⟩
          · rw [HEE.out]
            show World.ownsRow _ _ _ _ _ _ _
            rw [List.length_append, List.length_singleton, List.flatMap_append]
            simpa [prC] using hA.row
          · rcases hA.own with e | e
            · exact hsep c (e ▸ hc)
            · have h1 := e c hc
              have h2 : g < wr.heap.size := hglt
              have h3 : b8 < wr.heap.size := hblt
              refine ⟨by omega, fun g2 e2 => ?_⟩
              cases e2
              omega
          · have hfA : Fr wr (w9.setCell ⟨w.heap.size + 1, 0, none⟩ (.slice (some ⟨g', 0, none⟩) (EE.length + 1) cap')) (fun b => b = w.heap.size + 1 ∨ gv.ownBlock = some b) :=
              ⟨(hA.below 0 (by omega) (by omega) (by omega)).os, (hA.below 0 (by omega) (by omega) (by omega)).tape, (hA.below 0 (by omega) (by omega) (by omega)).output, hsz, fun b hb hn => hA.grown b hb (fun e => hn (Or.inl e)) (fun e => hn (Or.inr e))⟩
            exact HF.out.1.trans hfA (fun b e => e.elim (fun e => Or.inl e) (fun e => Or.inr (hgvB b e)))
          · obtain ⟨g3, e3, h3⟩ := HNL.out.at_ hi
            cases e3
            exact (World.cell?_of_block (a := ⟨g, i, none⟩) (hA.grown g hglt (by omega) (fun e => (hsep g e).2 g rfl rfl))).trans h3
          · rw [HXT.out]
            exact (World.cell?_of_block (a := ⟨b8, 0, none⟩) (hA.grown b8 hblt (by omega) (fun e => (hsep b8 e).1 rfl))).trans hbx
        clear hA HF HNL hsep hrow hv
        go_roundw
        case rel => exact ⟨j + 1, by go_num, by omega, HN⟩
        case measure => simp [intOf]; omega
      · have tj : ¬ (j : Int) < ((bkS L k).length : Int) := by omega
        have hje : j = (bkS L k).length := by omega
        have HE : Hid (KeepsFrom w3.heap.size V wr ∧ EdI w3 L (w.heap.size + 1) (pre ++ [k]) wr) := by
          refine ⟨HJ2.out.kf, ?_, HJ2.out.fr⟩
          obtain ⟨gv, hv, hrow, _⟩ := HJ2.out.gr
          refine ⟨gv, hv, ?_⟩
          rw [List.take_of_length_le (by omega)] at hrow
          have : edP L (pre ++ [k]) = edP L pre ++ edK L k := by simp [edP]
          rw [this]
          exact hrow
        clear HJ2
        gi_wp2
        exact ⟨HE.out.1, trivial, HE.out.2⟩
  case done =>
    rintro D ys V hD hys hI hK
    subst hys
    have hBV := hkB V _ hI
    obtain ⟨gv, hv, hrow⟩ := hI.gr
    have hc := hv.cell
    obtain ⟨ao9, cp9, rfl, _, _⟩ := Row.form hrow
    have HT := Hid.mk' (And.intro hrow hBV)
    clear hrow hBV hI hTh hkB hkb T3 hL3 hQ3 d1 d2 bxg bxg3
    gi_wp2
    obtain ⟨hrow, hBV⟩ := HT.out
    refine ⟨by simp, .inl ⟨_, _, rfl, run_takeDeferred hK, ?_⟩⟩
    exact ⟨_, results_tmp rfl _ _ _, _, rfl, own_base (ownsRow_putObj hrow _ hK rfl) (by omega), hBV.trans (belowK_b (w := w) (Nat.le_refl _) _ D _ _ (by omega) hK rfl rfl)⟩
  case stop =>
    rintro D c pre V _ _ hf _
    exact hf.elim
theorem edK_at {L : List Rq} (h : LastI L) {i : Nat} (hi : i < L.length) (hg : (atR L i).gr = false) : edK L i = edgesAt L i := by
  have hx : L[i]? = some (atR L i) := atR_some hi
  unfold edgesAt
  rw [hx]
  simp only [hg]
  rw [if_neg (by simp)]
  unfold edK bkS bks
  congr 2
  have e1 : fbk L i L.length = (List.range L.length).filter fun k => blk L k i := by
    unfold fbk
    refine List.filter_congr (fun k hk => ?_)
    exact bkP_blk h hx hg (atR_some (List.mem_range.1 hk))
  rw [e1]
  refine List.map_congr_left (fun k hk => ?_)
  exact (txAt_of (atR_some (List.mem_range.1 (List.mem_filter.1 hk).1))).symm
theorem edP_edges {L : List Rq} (h : LastI L) : edP L (fil (fun r => !r.gr) L L.length) = edgesF L := by
  have : ∀ l : List Nat, (∀ i ∈ l, i < L.length) → (l.filter fun j => !(atR L j).gr).flatMap (edK L) = l.flatMap (edgesAt L) := by
    intro l
    induction l with
    | nil => intro _; rfl
    | cons i l ih =>
      intro hl
      have hi := hl i (by simp)
      have ih' := ih (fun j hj => hl j (by simp [hj]))
      cases hg : (atR L i).gr with
      | true =>
        have e : edgesAt L i = [] := by
          unfold edgesAt
          rw [atR_some hi]
          simp [hg]
        rw [List.filter_cons_of_neg (by simp [hg]), List.flatMap_cons, e, List.nil_append]
        exact ih'
      | false =>
        rw [List.filter_cons_of_pos (by simp [hg]), List.flatMap_cons, List.flatMap_cons, edK_at h hi hg, ih']
  exact this _ (fun i hi => List.mem_range.1 hi)
theorem edges_lenE {L : List Rq} (h : LastI L) : (edgesF L).length ≤ L.length * L.length := by
  rw [← edP_edges h]
  have h1 := edP_len L (fil (fun r => !r.gr) L L.length)
  have h2 := fil_len (fun r : Rq => !r.gr) L L.length
  exact Nat.le_trans h1 (Nat.mul_le_mul_right _ h2)
theorem PT.edges {base : Nat} {w : World} {t : Nat} {most : Int} {L : List Rq} (h : PT base w t most L) :
    Calls Tryd.prog 21 #[.pointer (some ⟨t, 0, none⟩)] w fun e w' => ∃ v, e = .returned v ∧ OwnP w.heap.size w' v (edgesF L) ∧ Below w.heap.size w w' := by
  obtain ⟨lv, hT⟩ := h.tb
  rw [← edP_edges h.last]
  exact pedges_any hT h.lib h.len
end Go.Proofs.YtmldpbgdjlblmaaDoor
