/- Who keeps a request waiting, each once, in rising order: slices.AppendSeq, Collect, Sorted over an iterator that holds blocks of its own; slices.Compact. -/
import Derived.Test.YtmldpbgdjlblmaaDoorL11EN
import Derived.Test.YtmldpbgdjlblmaaDoorL11ER
import Derived.Test.YtmldpbgdjlblmaaDoorIter
import Derived.Lib.SlKeysI
namespace Go.Proofs.YtmldpbgdjlblmaaDoor
open Go.RowKit Go.Joins Go.Maps Go.Shelf Go.Sort
set_option linter.unusedVariables false
set_option linter.unusedSimpArgs false
attribute [local go_sem] Oper.semAt_some

/-- Numbers in a row of one's own. -/
abbrev IntsAt (base : Nat) (W : World) (v : Value) (zs : List Int) : Prop := W.ownsRow base 3 1 v zs.length (zs.map (Value.int .i64))
/-- Where AppendSeq's loop stands. -/
structure AsI (w : World) (f : Nat → Int) (m : Nat) (pre : List Nat) (V : World) : Prop where
  gr : ∃ gv, Boxed V w.heap.size 40 gv ∧ IntsAt m V gv (pre.map f)
  b : Below w.heap.size w V
  lo : w.heap.size ≤ m
theorem AsI.own {w : World} {f : Nat → Int} {B : Nat} (hB : w.heap.size ≤ B) (m : Nat) : OwnFrom B (AsI w f m) := fun pre A C row hs hg hr => by
  refine ⟨?_, (ownFrom_below (β := Unit) (B := B) (Nat.le_refl _) hB) () A C row hs.b hg hr, hs.lo⟩
  obtain ⟨gv, hv, hrow⟩ := hs.gr
  refine ⟨gv, hv.kept hg (fun e' => ?_), hrow.kept hg ?_⟩
  · obtain ⟨_, o, ho, hc⟩ := hr _ e'.symm
    rw [show A.heap[w.heap.size]? = _ from hv] at ho; cases ho; cases hc
  · rcases hrow.2 with ⟨rfl, _⟩ | ⟨g, cap, cur, rfl, _, hgb, _⟩
    · exact .inl rfl
    · refine .inr fun e' => ?_
      obtain ⟨_, o, ho, hc⟩ := hr g (by simpa [Value.ownBlock] using e'.symm)
      rw [hgb] at ho; cases ho; cases hc
set_option maxRecDepth 100000 in
set_option maxHeartbeats 4000000 in
theorem apseq_fn {w : World} {f : Nat → Int} {lb : Array Value} {Y : List Nat} {Sp : List Nat → Prop} (hY : Y.length ≤ 100000)
    (hseq : SeqM Fence.wide 8 Tryd.prog 63 lb (fun k => #[.int .i64 (f k)]) (fun _ W => Below w.heap.size w W) (fun ys => ys = Y) Sp 100000 w) :
    Calls Tryd.prog 75 #[.slice none 0 0, .func (.func 63) #[] lb] w fun e w' => ∃ v, e = .returned v ∧ IntsAt w.heap.size w' v (Y.map f) ∧ Below w.heap.size w w' := by
  refine (callsIn_wide (n := 9)).1 ?_
  refine callsIn_of_wp_marks Tryd.func75 rfl trivial ?_ rfl
  simp only [Tryd.ntmps75, List.size_toArray, List.length_cons, List.length_nil, Nat.reduceAdd, Nat.reduceSub, Array.replicate_succ, Array.replicate_zero, List.push_toArray, List.append_toArray, List.nil_append, List.cons_append]
  have hbw : Below w.heap.size w (w.alloc (.cells #[.slice none 0 0] 40)) := (Below.refl _ _).alloc (Nat.le_refl _) _
  have bx := Boxed.new w 40 (.slice none 0 0)
  have hs1 : (w.alloc (.cells #[.slice none 0 0] 40)).heap.size = w.heap.size + 1 := by simp
  generalize hw1 : w.alloc (.cells #[.slice none 0 0] 40) = w1 at *
  gi_wp2_with fail
  clear hw1
  refine wpIn_rangeM (F := Fence.wide) (n := 9) rfl (by omega) (gf := 63) rfl trivial enters_ag1 hseq hbw (fun _ => rfl)
    (AsI w f) (fun _ _ _ => False) (fun m => AsI.own (by omega) m) (fun _ _ _ _ _ hs _ _ => hs) (fun m pre V hs => hs.b)
    (fun m V hb h1 h2 => ⟨⟨_, (hb.block _ (by omega)).trans bx, World.ownsRow_nil _ _ _ _⟩, hbw.trans (hb.mono (by omega)), by omega⟩)
    (fun (x : Nat) => { tmps := #[.slice none 0 0, .func (.func 63) #[] lb, .pointer (some ⟨w.heap.size, 0, none⟩), undef, .slice none 0 0, .int .i64 (f x), .func (.func 63) #[] lb, .int .i64 (f x), undef, undef, undef, undef, undef], defers := [] }) ?assign ?body ?done ?stop
  case assign =>
    intro l x W K hK
    gi_wp2
    simpa using hK
  case body =>
    rintro l m pre x V hm1 hm2 ⟨⟨gv, hv, hrow⟩, hB, hlo⟩ hlt
    have hmap : (pre ++ [x]).map f = pre.map f ++ [f x] := by simp
    have hlen : (pre.map f).length ≤ 100000 := by rw [List.length_map]; omega
    have HM := Hid.mk' hmap
    clear hmap
    generalize pre.map f = zs at *
    obtain ⟨i0, hi, hz0, hz1, hz2⟩ := info_parts infoI11
    have hgvB : ∀ c, gv.ownBlock = some c → m ≤ c := fun c hc => (ownGe hrow c hc).1
    have hgvN : gv.ownBlock ≠ some w.heap.size := fun e => by have := hgvB _ e; omega
    have hc := hv.cell
    gi_wp2_with (gi_at_builtin; refine wpListIn_append_own_at _ rfl _ _ 40 rfl m 3 i0 (.int .i64 0) 1 8 Tryd.underlying40 hi hz0 hz1 hz2 rfl (by decide) _ _ _ rfl (hrow.alloc _) ⟨V.heap.size, 0, none⟩ 1 1 [.int .i64 (f x)] rfl rfl (cell_one_new _ _ _) (by simp [Value.oneCell']) (by unfold maxLen; omega) (by omega) (by simp; omega) ?_; intro v' w2 hown' hgrow _ hat; obtain ⟨g', cap', rfl⟩ := ownsRow_succ hown'; obtain ⟨hv1, hA⟩ := app8 hv hgvN hrow (by omega) hown' hgrow (hat.imp id (fun e k hk => by rw [e] at hk; simp at hk; omega)); have hc1 := hv1.cell; have hf1 := hv1.frozen)
    refine ⟨hA.oth.from _, fun b h1 h2 => hA.grown b (by omega) (by omega) (fun e => by have := hgvB _ e; omega), ⟨⟨_, hA.box, ?_⟩, hB.trans (hA.below w.heap.size (Nat.le_refl _) (by omega) hB.size), hlo⟩⟩
    rw [HM.out]
    simpa [IntsAt] using hA.row
  case done =>
    rintro D m ys V hD hys ⟨⟨gv, hv, hrow⟩, hB, hlo⟩ hK
    subst hys
    have hc := hv.cell
    have hgl : ∃ ao n cp, gv = .slice ao n cp := by
      rcases hrow.2 with ⟨e, _⟩ | ⟨g, cap', cur, e, _⟩
      · exact ⟨_, _, _, e⟩
      · exact ⟨_, _, _, e⟩
    obtain ⟨ao9, m9, cp9, rfl⟩ := hgl
    have HT := Hid.mk' (And.intro hrow hB)
    clear hrow hB hseq
    gi_wp2
    obtain ⟨hrow, hB⟩ := HT.out
    refine ⟨by simp, .inl ⟨_, _, rfl, run_takeDeferred hK, ?_⟩⟩
    exact ⟨_, results_tmp rfl _ _ _, _, rfl, own_base (ownsRow_putObj hrow _ hK rfl) hlo, hB.trans (belowK_b (w := w) (Nat.le_refl _) _ D _ _ (by omega) hK rfl rfl)⟩
  case stop =>
    rintro D c pre V _ _ hf _
    exact hf.elim
theorem IntsAt.form {base : Nat} {W : World} {v : Value} {zs : List Int} (h : IntsAt base W v zs) : ∃ ao cap, v = .slice ao zs.length cap := by
  rcases h.2 with ⟨e, hn⟩ | ⟨g, cap', cur, e, _⟩
  · exact ⟨none, 0, by rw [e, hn]⟩
  · exact ⟨_, _, e⟩
theorem collect_fn {w : World} {f : Nat → Int} {lb : Array Value} {Y : List Nat} {Sp : List Nat → Prop} (hY : Y.length ≤ 100000)
    (hseq : SeqM Fence.wide 8 Tryd.prog 63 lb (fun k => #[.int .i64 (f k)]) (fun _ W => Below w.heap.size w W) (fun ys => ys = Y) Sp 100000 w) :
    Calls Tryd.prog 61 #[.func (.func 63) #[] lb] w fun e w' => ∃ v, e = .returned v ∧ IntsAt w.heap.size w' v (Y.map f) ∧ Below w.heap.size w w' := by
  have ha := apseq_fn hY hseq
  clear hseq
  generalize Y.map f = zs at *
  go_enter Tryd.func61, Tryd.ntmps61
  go_wp2_with fail
  refine ha.mono ?_
  rintro e w1 ⟨v, rfl, hi, hb⟩
  obtain ⟨ao, cap, rfl⟩ := hi.form
  have H := Hid.mk' (And.intro hi hb)
  clear ha hi hb
  go_wp2_with fail
  go_ret
  exact ⟨_, rfl, H.out⟩
/-- The numbers of a list in order. -/
abbrev srt (l : List Int) : List Int := l.mergeSort fun x y => decide (x ≤ y)
/-- slices.Sort of a row of one's own. -/
theorem sort_fn {base : Nat} {W : World} {v : Value} {zs : List Int} (h : IntsAt base W v zs) (hb : base ≤ W.heap.size) (hl : zs.length ≤ 100000) :
    Calls Tryd.prog 62 #[v] W fun e w' => e = .returned (.tuple #[]) ∧ IntsAt base w' v (srt zs) ∧ Below base W w' := by
  rcases id h.2 with ⟨rfl, hz⟩ | ⟨g, cap, cur, rfl, hbase, hgb, r1, r2, r3, r4⟩
  · have hss : zs = [] := List.eq_nil_of_length_eq_zero hz
    subst hss
    exact (AnyM.slices_Sort_int_none Tryd.sortA none 0 W).mono (fun e w' ⟨he, hw⟩ => ⟨he, by rw [hw]; simpa [srt] using h, by rw [hw]; exact Below.refl _ _⟩)
  · have hH : Holds (Value.int .i64) W g 0 zs.toArray := holds_of_block_i hgb (by simpa using r4)
    have hgl : g < W.heap.size := (Array.getElem?_eq_some_iff.1 hgb).1
    have hsz : zs.length < 4611686018427387904 := by omega
    refine (AnyM.slices_Sort_int Tryd.sortA g 0 cap zs W hH hgl hsz).mono ?_
    rintro e w' ⟨he, nn, os, rfl⟩
    refine ⟨he, ?_, (Below.refl base W).grown (grownBy_sorted_i _) hb (fun j hj => by cases hj; exact hbase)⟩
    have := ownsRow_sorted_i (n := nn) (os := os) (ts := srt zs) (by simp) hbase hgb r1 r2 r3
    show World.ownsRow _ _ _ _ _ _ _
    rw [show (srt zs).length = zs.length by simp]
    exact this
theorem sorted_fn {w : World} {f : Nat → Int} {lb : Array Value} {Y : List Nat} {Sp : List Nat → Prop} (hY : Y.length ≤ 100000)
    (hseq : SeqM Fence.wide 8 Tryd.prog 63 lb (fun k => #[.int .i64 (f k)]) (fun _ W => Below w.heap.size w W) (fun ys => ys = Y) Sp 100000 w) :
    Calls Tryd.prog 46 #[.func (.func 63) #[] lb] w fun e w' => ∃ v, e = .returned v ∧ IntsAt w.heap.size w' v (srt (Y.map f)) ∧ Below w.heap.size w w' := by
  have ha := collect_fn hY hseq
  have hzl : (Y.map f).length ≤ 100000 := by rw [List.length_map]; exact hY
  clear hseq
  generalize Y.map f = zs at *
  go_enter Tryd.func46, Tryd.ntmps46
  go_wp2_with fail
  refine ha.mono ?_
  rintro e w1 ⟨v, rfl, hi, hb⟩
  have hs := sort_fn hi hb.size hzl
  obtain ⟨ao, cap, rfl⟩ := hi.form
  have HB := Hid.mk' hb
  clear ha hi hb
  go_wp2_with fail
  refine hs.mono ?_
  rintro e w2 ⟨rfl, hi2, hb2⟩
  have H := Hid.mk' (And.intro hi2 (HB.out.trans hb2))
  clear hs hi2 hb2 HB
  go_wp2_with fail
  go_ret
  exact ⟨_, rfl, H.out⟩
/-- Numbers as they are read. -/
structure NList (W : World) (ao : Option Addr) (cap : Nat) (zs : List Int) : Prop where
  le : zs.length ≤ cap
  row : zs = [] ∨ ∃ g, ao = some ⟨g, 0, none⟩ ∧ ∀ j (h : j < zs.length), W.cell? ⟨g, j, none⟩ = some (.int .i64 zs[j])
theorem NList.keep {w w' : World} {ao : Option Addr} {cap : Nat} {zs : List Int} (h : NList w ao cap zs) (hb : Below w.heap.size w w') : NList w' ao cap zs :=
  ⟨h.le, h.row.imp id (fun ⟨g, e, hX⟩ => ⟨g, e, fun k hk => cell_keep hb (hX k hk)⟩)⟩
theorem NList.at_ {W : World} {ao : Option Addr} {cap : Nat} {zs : List Int} (h : NList W ao cap zs) {j : Nat} (hj : j < zs.length) : ∃ g, ao = some ⟨g, 0, none⟩ ∧ W.cell? ⟨g, j, none⟩ = some (.int .i64 zs[j]) := by
  rcases h.row with h0 | ⟨g, e, hX⟩
  · rw [h0] at hj; simp at hj
  · exact ⟨g, e, hX j hj⟩
theorem compact_len (zs : List Int) : (Lib.compact zs).length ≤ zs.length := by
  unfold Lib.compact Lib.compactUpTo
  rw [List.length_map]
  have := List.length_filter_le (Lib.keeps zs.toArray) (List.range zs.length)
  simpa using this
/-- slices.Compact of a row of one's own. -/
theorem compact_fn {base : Nat} {W : World} {v : Value} {zs : List Int} (h : IntsAt base W v zs) (hb : base ≤ W.heap.size) :
    Calls Tryd.prog 48 #[v] W fun e w' => ∃ ao cap, e = .returned (.slice ao (Lib.compact zs).length cap) ∧ NList w' ao cap (Lib.compact zs) ∧ (∀ g, ao = some ⟨g, 0, none⟩ → base ≤ g) ∧ Below base W w' := by
  have hcl := compact_len zs
  rcases id h.2 with ⟨rfl, hz⟩ | ⟨g, cap, cur, rfl, hbase, hgb, r1, r2, r3, r4⟩
  · have hss : zs = [] := List.eq_nil_of_length_eq_zero hz
    subst hss
    refine (AnyG.slices_Compact_int_empty Tryd.compactA none 0 W).mono (fun e w' ⟨he, hw⟩ => ⟨none, 0, ?_, ⟨by simpa using hcl, Or.inl ?_⟩, (fun g e => by cases e), by rw [hw]; exact Below.refl _ _⟩)
    · rw [he]; simp [Lib.compact, Lib.compactUpTo]
    · simp [Lib.compact, Lib.compactUpTo]
  · have hH : Holds (Value.int .i64) W g 0 zs.toArray := holds_of_block_i hgb (by simpa using r4)
    have hsz : zs.length ≤ 9223372036854775807 := by unfold maxLen at r2; omega
    refine (AnyG.slices_Compact_int Tryd.compactA g 0 cap zs W hH hsz r1).mono ?_
    rintro e w' ⟨he, q, hw⟩
    have hw2 : w' = grow (putRow (Value.int .i64) (Sort.ahead W q) g 0 (Lib.compact zs ++ List.replicate (zs.length - (Lib.compact zs).length) 0).toArray) #[] := by rw [grow_empty]; exact hw
    clear hw
    subst hw2
    have ho := ownsRow_sorted_i (n := q) (os := #[]) (ss := zs) (ts := Lib.compact zs ++ List.replicate (zs.length - (Lib.compact zs).length) 0) (by simp; omega) hbase hgb r1 r2 r3
    refine ⟨some ⟨g, 0, none⟩, cap, he, ⟨by omega, Or.inr ⟨g, rfl, fun j hj => ?_⟩⟩, (fun g' e => by cases e; exact hbase), (Below.refl base W).grown (grownBy_sorted_i _) hb (fun j hj => by cases hj; exact hbase)⟩
    have := World.ownsRow.cells ho (g := g) rfl j (.int .i64 (Lib.compact zs)[j]) (by
      rw [List.map_append, List.getElem?_append_left (by simpa using hj), List.getElem?_map, List.getElem?_eq_getElem hj]; rfl)
    rwa [Addr.add_mid, Nat.zero_add] at this
/-- What stands in order, each once. -/
theorem compact_inv {d : Array Int} (hs : ∀ a b, a ≤ b → b < d.size → d[a]! ≤ d[b]!) : ∀ m, m ≤ d.size → (Lib.compactUpTo d m).Pairwise (· < ·) ∧ ∀ x, x ∈ Lib.compactUpTo d m ↔ ∃ j, j < m ∧ d[j]! = x := by
  intro m
  induction m with
  | zero => intro _; exact ⟨by simp [Lib.compactUpTo], fun x => by simp [Lib.compactUpTo]⟩
  | succ m ih =>
    intro hm
    obtain ⟨h1, h2⟩ := ih (by omega)
    rw [Lib.compactUpTo_succ]
    cases hk : Lib.keeps d m with
    | true =>
      simp only [if_true]
      refine ⟨?_, fun x => ?_⟩
      · rw [List.pairwise_append]
        refine ⟨h1, List.pairwise_singleton _ _, fun a ha b hb => ?_⟩
        rw [List.mem_singleton.1 hb]
        obtain ⟨j, hj, rfl⟩ := (h2 a).1 ha
        have q1 := hs j (m - 1) (by omega) (by omega)
        have q2 := hs (m - 1) m (by omega) (by omega)
        simp only [Lib.keeps, decide_eq_true_eq] at hk
        rcases hk with hk | hk
        · omega
        · omega
      · rw [List.mem_append, h2 x, List.mem_singleton]
        constructor
        · rintro (⟨j, hj, e⟩ | e)
          · exact ⟨j, by omega, e⟩
          · exact ⟨m, by omega, e.symm⟩
        · rintro ⟨j, hj, e⟩
          by_cases hjm : j = m
          · subst hjm; exact Or.inr e.symm
          · exact Or.inl ⟨j, by omega, e⟩
    | false =>
      simp only [Bool.false_eq_true, if_false, List.append_nil]
      refine ⟨h1, fun x => ?_⟩
      rw [h2 x]
      simp only [Lib.keeps, decide_eq_false_iff_not, not_or] at hk
      constructor
      · rintro ⟨j, hj, e⟩; exact ⟨j, by omega, e⟩
      · rintro ⟨j, hj, e⟩
        by_cases hjm : j = m
        · subst hjm; exact ⟨j - 1, by omega, by rw [← Classical.not_not.1 hk.2]; exact e⟩
        · exact ⟨j, by omega, e⟩
theorem compact_sd (ss : List Int) : Lib.compact (srt ss) = sd ss := by
  have tr : ∀ a b c : Int, decide (a ≤ b) = true → decide (b ≤ c) = true → decide (a ≤ c) = true := fun a b c h1 h2 => by simp only [decide_eq_true_eq] at *; omega
  have tt : ∀ a b : Int, (decide (a ≤ b) || decide (b ≤ a)) = true := fun a b => by simp only [Bool.or_eq_true, decide_eq_true_eq]; omega
  have hp := List.pairwise_iff_getElem.1 (List.pairwise_mergeSort tr tt ss)
  have hg : ∀ a, a < (srt ss).length → ∀ h : a < (srt ss).length, (srt ss).toArray[a]! = (srt ss)[a] := fun a ha h => by
    rw [getElem!_pos _ _ (by simpa using ha)]; simp
  have hs : ∀ a b, a ≤ b → b < (srt ss).toArray.size → (srt ss).toArray[a]! ≤ (srt ss).toArray[b]! := fun a b hab hb => by
    have hb' : b < (srt ss).length := by simpa using hb
    rw [hg a (by omega) (by omega), hg b hb' hb']
    by_cases e : a = b
    · subst e; omega
    · have := hp a b (show a < (srt ss).length by omega) hb' (by omega)
      simpa using this
  obtain ⟨h1, h2⟩ := compact_inv hs (srt ss).length (by simp)
  refine sorted_unique h1 (sd_sorted ss) (fun x => ?_)
  show x ∈ Lib.compactUpTo _ _ ↔ _
  rw [h2 x, mem_sd]
  constructor
  · rintro ⟨j, hj, e⟩
    rw [hg j hj hj] at e
    have := List.getElem_mem hj
    rw [e] at this
    simpa [srt] using this
  · intro hx
    have hx' : x ∈ srt ss := by simpa [srt] using hx
    obtain ⟨j, hj, e⟩ := List.getElem_of_mem hx'
    exact ⟨j, hj, by rw [hg j hj hj]; exact e⟩
end Go.Proofs.YtmldpbgdjlblmaaDoor
