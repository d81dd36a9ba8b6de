/- Looking for an entry: seek. -/
import Derived.Test.YtfobcnmhghfanaaB9N
namespace Go.Proofs.Ytfobcnmhghfanaa
open Go.RowKit Go.Shelf
set_option linter.unusedVariables false
set_option linter.unusedSimpArgs false

/-- Going down k levels by the first branches. -/
def Lm (nd : Nat → Nd) : Nat → Br → Br → Prop
  | 0, q, b => q = b
  | k + 1, q, b => ∃ x t, (nd q.2).bs = x :: t ∧ Lm nd k x b
theorem Lm.snoc {nd : Nat → Nd} : ∀ (k : Nat) (q b x : Br) (t : List Br), Lm nd k q b → (nd b.2).bs = x :: t → Lm nd (k + 1) q x
  | 0, q, b, x, t, h, hb => by
    have h' : q = b := h
    subst h'
    exact ⟨x, t, hb, rfl⟩
  | k + 1, q, b, x, t, h, hb => by
    obtain ⟨y, u, h1, h2⟩ := h
    exact ⟨y, u, h1, Lm.snoc k y b x t h2 hb⟩
/-- Where the seeking stands: on the way of the key, or on the way down to the next leaf. -/
inductive Sk (nd : Nat → Nd) (H : Nat) (lv : Nat → List Br) (key : ByteArray) (is : Bool) : Nat → Value → Value → Prop
  | p1 (j : Nat) (A : List Br) (p : Br) (B : List Br) (s8 : Value) (hj : j ≤ H) (pa : Path lv key j A p B) (ha : B = [] ∧ s8 = .pointer none ∨ ∃ b B' a j', B = b :: B' ∧ s8 = pt a.2 ∧ 0 < j' ∧ j' ≤ j ∧ a ∈ lv j' ∧ kl key a.1 = true ∧ Lm nd (j - j') a b) : Sk nd H lv key is (H - j + (H + 1)) (pt p.2) s8
  | p2 (j : Nat) (q : Br) (v : Option Addr) (A : List Br) (p b : Br) (B : List Br) (i : Nat) (h0 : 0 < j) (hj : j ≤ H) (hq : q ∈ lv j) (hk : kl key q.1 = true) (hl : Lm nd (H - j) q b) (pa : Path lv key H A p (b :: B)) (hb : Bnd (nd p.2).es key is i) (hi : ¬ i < (nd p.2).es.length) : Sk nd H lv key is (H - j) (pt q.2) (.pointer v)
/-- What seeking comes to. -/
inductive SkOut (w : World) (nd : Nat → Nd) (H : Nat) (lv : Nat → List Br) (key : ByteArray) (is : Bool) (e : Ending) (w' : World) : Prop
  | none_ (he : e = .returned (.pointer none)) (hb : Below w.heap.size w w') (hn : nextL (ents nd (lv H)) key is = none)
  | some_ (A : List Br) (p : Br) (B : List Br) (i : Nat) (hi : i < (nd p.2).es.length) (g n cap : Nat) (he : e = .returned (.pointer (some ⟨g, i * 3, none⟩))) (hb : Below w.heap.size w w') (hp : lv H = A ++ p :: B) (hv : (nd p.2).ve = .slice (some ⟨g, 0, none⟩) n cap) (hn : nextL (ents nd (lv H)) key is = some (nd p.2).es[i])
theorem line_leaf {nd : Nat → Nd} {r H : Nat} {lv : Nat → List Br} {dep : Nat → Nat} (h : Shape nd r H lv dep) {A B : List Br} {p : Br} (hp : lv H = A ++ p :: B) : Line (nd p.2).es := by
  have := h.line
  rw [hp, ents_append, ents_cons] at this
  exact (List.pairwise_append.1 (List.pairwise_append.1 this).2.1).1
theorem head_app {x y : List E} (h : 0 < x.length) : (x ++ y).head? = some x[0] := by
  cases x with
  | nil => simp at h
  | cons a t => rfl
theorem seek_nil (key : ByteArray) (is : Bool) (w : World) : Calls Try.prog 31 #[.pointer none, .string key, .bool is] w fun e w' => e = .returned (.pointer none) ∧ w' = w := by
  go_enter Try.func31, Try.ntmps31
  go_wp2
  go_step3
  go_wp2
  try rw [Exit.noGoto_ret]
  go_ret
  exact ⟨rfl, rfl⟩
/-- A leaf's or another node's cells, as they are read. -/
theorem TS.node {base : Nat} {w : World} {ro : Ro} {nd : Nat → Nd} {r H : Nat} {lv : Nat → List Br} {dep : Nat → Nat} (ts : TS base w ro nd r H lv dep) {j : Nat} (hj : j ≤ H) {p : Br} (hp : p ∈ lv j) : ro p.2 = some (p.2, 0) ∧ (nd p.2).bs.length ≤ 1000 ∧ (nd p.2).es.length ≤ 1000 ∧ ((nd p.2).bs = [] ↔ j = H) := by
  have h1 := ts.toSZ.all ts.sh hj hp
  have h2 := bs_le (nd p.2)
  have h3 := es_le (nd p.2)
  refine ⟨ts.inn j hj p hp, by omega, by omega, ⟨fun e => ?_, fun e => ?_⟩⟩
  · rcases Nat.lt_or_ge j H with h1 | h1
    · obtain ⟨_, c, t, hb⟩ := ts.sh.inner j h1 p hp
      rw [hb] at e; cases e
    · omega
  · exact ts.sh.leaf p (by rw [← e]; exact hp)
theorem TS.rowB' {base : Nat} {w : World} {ro : Ro} {nd : Nat → Nd} {r H : Nat} {lv : Nat → List Br} {dep : Nat → Nat} (ts : TS base w ro nd r H lv dep) {j : Nat} (hj : j < H) {p : Br} (hp : p ∈ lv j) : ∃ g cap, w.cell? ⟨p.2, 1, none⟩ = some (.slice (some ⟨g, 0, none⟩) (nd p.2).bs.length cap) ∧ ∀ i (hi : i < (nd p.2).bs.length), w.cell? ⟨g, i * 2 + 1, none⟩ = some (pt (nd p.2).bs[i].2) := by
  have hr := ts.inn j (by omega) p hp
  obtain ⟨_, c, t, hb⟩ := ts.sh.inner j hj p hp
  have hrow := ts.mem.rowB p.2 hr
  obtain ⟨g, cap, hv, _, _⟩ := hrow.at_ (by rw [hb]; simp)
  have hN := (ts.mem.at_ hr).c1
  rw [hv] at hrow hN
  refine ⟨g, cap, hN, fun i hi => ?_⟩
  have := hrow.cell (cB_len _) i hi 1 (by omega)
  rw [this]; rfl
set_option maxHeartbeats 4000000 in
set_option maxRecDepth 100000 in
theorem seek_any {base : Nat} {w : World} {ro : Ro} {nd : Nat → Nd} {r H : Nat} {lv : Nat → List Br} {dep : Nat → Nat} (ts : TS base w ro nd r H lv dep) (key : ByteArray) (is : Bool) :
    Calls Try.prog 31 #[pt r, .string key, .bool is] w fun e w' => SkOut w nd H lv key is e w' := by
  have HS : Hid (TS base w ro nd r H lv dep) := ts
  have H0 : Hid (Sk nd H lv key is (H - 0 + (H + 1)) (pt (ByteArray.empty, r).2) (.pointer none)) := .p1 0 [] (ByteArray.empty, r) [] (.pointer none) (by omega) (ts.sh.path0 key) (Or.inl ⟨rfl, rfl⟩)
  clear ts
  go_enter Try.func31, Try.ntmps31
  go_wp2
  go_step3
  go_wp2
  go_step3
  go_wp2
  go_loopg [7, 8] (H + (H + 1)) (fun kx s7 s8 wr => ∃ k, k ≤ kx ∧ Hid (Sk nd H lv key is k s7 s8) ∧ Hid (Below w.heap.size w wr))
  case atStart => exact ⟨_, Nat.le_refl _, H0, Below.refl _ _⟩
  case round =>
    obtain ⟨k, hk, hS, hB⟩ := hrel
    have hSk := hS.out
    have tsr := HS.out.below hB.out
    cases hSk with
    | p1 j A p B s8 hj pa ha =>
      have hpm : p ∈ lv j := by rw [pa.at_]; simp
      obtain ⟨hro, hlb, hle, hleaf⟩ := tsr.node hj hpm
      have hil := misLeaf_any tsr.mem hro hlb
      by_cases hjH : j = H
      · subst hjH
        rw [decide_eq_true (hleaf.2 rfl)] at hil
        have hef := entryFrom_any (tsr.mem.at_ hro) (tsr.mem.rowE _ hro) hle (line_leaf tsr.sh pa.at_) key is
        obtain ⟨ao, cap, hve, hcap, _⟩ := (tsr.mem.rowE _ hro).form
        have hN := tsr.mem.at_ hro
        obtain ⟨hA, hBk⟩ := tsr.sh.at_leaf pa
        have eL : ents nd (lv j) = ents nd A ++ ((nd p.2).es ++ ents nd B) := by rw [pa.at_, ents_append, ents_cons]
        go_wp2_with (go_at_call 34; refine hil.mono ?_; clear hil; rintro e wx ⟨rfl, hwx⟩; rw [hwx]; clear hwx wx)
        refine hef.mono ?_
        clear hef
        rintro e w1 ⟨i, he, hbn, hb1⟩
        subst he
        have hbb : Below w.heap.size w w1 := hB.out.trans (hb1.mono hB.out.size)
        have x1 := (hN.below hb1).c0
        by_cases hlt : i < (nd p.2).es.length
        · obtain ⟨g, cap', hv', _, _⟩ := (tsr.mem.rowE _ hro).at_ (by omega)
          have HO : Hid (SkOut w nd j lv key is (.returned (.pointer (some ⟨g, i * 3, none⟩))) w1) := .some_ A p B i hlt g _ cap' rfl hbb pa.at_ hv' (by rw [eL]; exact next_in hA hbn hlt)
          rw [hv'] at x1
          have hz : (i : Int) < ((nd p.2).es.length : Int) := by omega
          clear hve hN hv' hA hBk eL hbn hleaf ha hB
          generalize (nd p.2).es.length = ne at *
          go_wp2
          try rw [Exit.noGoto_ret]
          go_ret
          exact HO.out
        · rw [hve] at x1
          have hz : ¬ ((i : Int) < ((nd p.2).es.length : Int)) := by omega
          rcases ha with ⟨hB0, rfl⟩ | ⟨b, B', a, j', hB0, rfl, hj0, hjj, ham, hka, hlm⟩
          · have HO : Hid (SkOut w nd j lv key is (.returned (.pointer none)) w1) := .none_ rfl hbb (by rw [eL, next_out hA hBk hbn hlt, hB0]; rfl)
            clear hve hN hA hBk eL hbn hleaf hB hB0
            generalize (nd p.2).es.length = ne at *
            go_wp2
            try rw [Exit.noGoto_ret]
            go_ret
            exact HO.out
          · subst hB0
            have HR : Hid (Sk nd j lv key is (j - j') (pt a.2) (.pointer none)) := .p2 j' a none A p b B' i hj0 hjj ham hka hlm pa hbn hlt
            have HB1 : Hid (Below w.heap.size w w1) := hbb
            clear hve hN hA hBk eL hbn hleaf hB ham hka hlm hbb
            generalize (nd p.2).es.length = ne at *
            go_wp2
            go_roundg (j - j')
            case measure => omega
            case rel => exact ⟨j - j', Nat.le_refl _, HR, HB1⟩
      · have hjl : j < H := by omega
        rw [decide_eq_false (fun e => hjH (hleaf.1 e))] at hil
        obtain ⟨_, c0, t0, e0⟩ := tsr.sh.inner j hjl p hpm
        have hbf := branchFor_any (tsr.mem.at_ hro) (tsr.mem.rowB _ hro) (by rw [e0]; simp) hlb (tsr.sh.lows_in hjl hpm) key
        go_wp2_with (go_at_call 34; refine hil.mono ?_; clear hil; rintro e wx ⟨rfl, hwx⟩; rw [hwx]; clear hwx wx)
        refine hbf.mono ?_
        clear hbf
        rintro e w1 ⟨i, he, hbr, hb1⟩
        subst he
        have hbb : Below w.heap.size w w1 := hB.out.trans (hb1.mono hB.out.size)
        obtain ⟨g, cap, x1, xs⟩ := (tsr.below hb1).rowB' hjl hpm
        have hi := hbr.lt
        have hp0 : kl key ((nd p.2).bs[i]).1 = false := by
          refine hbr.lo (by rw [e0]; simp) ?_
          simp only [e0, List.getElem_cons_zero]
          exact pa.lo
        have hq : (nd p.2).bs = (nd p.2).bs.take i ++ (nd p.2).bs[i] :: (nd p.2).bs.drop (i + 1) := by
          conv => lhs; rw [← List.take_append_drop i (nd p.2).bs, List.drop_eq_getElem_cons hi]
        have hpa := tsr.sh.down hjl pa hq hp0 (fun x hx => by
          obtain ⟨t, ht, rfl⟩ := List.getElem_of_mem hx
          rw [List.length_drop] at ht
          rw [List.getElem_drop]
          exact hbr.hi (i + 1 + t) (by omega) (by omega))
        have x2 := xs i hi
        have HB1 : Hid (Below w.heap.size w w1) := hbb
        by_cases hlt : i + 1 < (nd p.2).bs.length
        · have x3 := xs (i + 1) hlt
          have HR : Hid (Sk nd H lv key is (H - (j + 1) + (H + 1)) (pt (nd p.2).bs[i].2) (pt (nd p.2).bs[i + 1].2)) := by
            refine .p1 (j + 1) _ (nd p.2).bs[i] _ _ (by omega) hpa (Or.inr ⟨(nd p.2).bs[i + 1], (nd p.2).bs.drop (i + 2) ++ next nd B, (nd p.2).bs[i + 1], j + 1, by rw [List.drop_eq_getElem_cons hlt]; rfl, rfl, by omega, Nat.le_refl _, ?_, hbr.hi (i + 1) hlt (by omega), by rw [Nat.sub_self]; rfl⟩)
            rw [tsr.sh.nx j hjl]
            exact List.mem_flatMap.2 ⟨p, hpm, List.getElem_mem hlt⟩
          have hz : (i : Int) + 1 < ((nd p.2).bs.length : Int) := by omega
          have hz1 : (i : Int) < ((nd p.2).bs.length : Int) := by omega
          have hw1 : IntKind.i64.wrap ((i : Int) + 1) = (i : Int) + 1 := by rw [IntKind.wrap_i64]; omega
          have hz3 : (0 : Int) ≤ (i : Int) + 1 := by omega
          have hz4 : ((i : Int) + 1).toNat = i + 1 := by omega
          generalize (nd p.2).bs[i].2 = cA at *
          generalize (nd p.2).bs[i + 1].2 = cC at *
          clear hB hbb hpa hq hp0 xs hbr e0 hleaf ha
          generalize (nd p.2).bs.length = nb at *
          go_wp2
          go_roundg (H - (j + 1) + (H + 1))
          case measure => omega
          case rel => exact ⟨_, Nat.le_refl _, HR, HB1⟩
        · have hdr : (nd p.2).bs.drop (i + 1) = [] := List.drop_eq_nil_of_le (by omega)
          rw [hdr, List.nil_append] at hpa
          have HR : Hid (Sk nd H lv key is (H - (j + 1) + (H + 1)) (pt (nd p.2).bs[i].2) u8) := by
            refine .p1 (j + 1) _ (nd p.2).bs[i] _ _ (by omega) hpa ?_
            rcases ha with ⟨hB0, h8⟩ | ⟨b, B', a, j', hB0, h8, hj0, hjj, ham, hka, hlm⟩
            · exact Or.inl ⟨by rw [hB0]; rfl, h8⟩
            · subst hB0
              obtain ⟨_, c1, t1, e1⟩ := tsr.sh.inner j hjl b (by rw [pa.at_]; simp)
              refine Or.inr ⟨(b.1, c1), t1 ++ next nd B', a, j', by rw [next_cons, e1]; rfl, h8, hj0, by omega, ham, hka, ?_⟩
              rw [show j + 1 - j' = (j - j') + 1 by omega]
              exact Lm.snoc _ _ _ _ _ hlm e1
          have hz : ¬ ((i : Int) + 1 < ((nd p.2).bs.length : Int)) := by omega
          have hz1 : (i : Int) < ((nd p.2).bs.length : Int) := by omega
          have hw1 : IntKind.i64.wrap ((i : Int) + 1) = (i : Int) + 1 := by rw [IntKind.wrap_i64]; omega
          generalize (nd p.2).bs[i].2 = cA at *
          clear hB hbb hpa hq hp0 xs hbr e0 hleaf ha hdr
          generalize (nd p.2).bs.length = nb at *
          go_wp2
          go_roundg (H - (j + 1) + (H + 1))
          case measure => omega
          case rel => exact ⟨_, Nat.le_refl _, HR, HB1⟩
    | p2 j q v A p b B i0 h0 hj hq hkl hl pa hb hi0 =>
      obtain ⟨hro, hlb, hle, hleaf⟩ := tsr.node hj hq
      have hil := misLeaf_any tsr.mem hro hlb
      by_cases hjH : j = H
      · subst hjH
        rw [Nat.sub_self] at hl
        have hqb : q = b := hl
        subst hqb
        rw [decide_eq_true (hleaf.2 rfl)] at hil
        have hpl : lv j = (A ++ [p]) ++ q :: B := by rw [pa.at_]; simp
        have hef := entryFrom_any (tsr.mem.at_ hro) (tsr.mem.rowE _ hro) hle (line_leaf tsr.sh hpl) key is
        have hN := tsr.mem.at_ hro
        obtain ⟨hA, hBk⟩ := tsr.sh.at_leaf pa
        have eL : ents nd (lv j) = ents nd A ++ ((nd p.2).es ++ ents nd (q :: B)) := by rw [pa.at_, ents_append, ents_cons]
        have hnz : 0 < (nd q.2).es.length := by
          have h4 := (tsr.sz j h0 hj q hq).1
          unfold Nd.sz at h4
          rw [hleaf.2 rfl, List.length_nil] at h4
          omega
        go_wp2_with (go_at_call 34; refine hil.mono ?_; clear hil; rintro e wx ⟨rfl, hwx⟩; rw [hwx]; clear hwx wx)
        refine hef.mono ?_
        clear hef
        rintro e w1 ⟨i, he, hbn, hb1⟩
        subst he
        have hbb : Below w.heap.size w w1 := hB.out.trans (hb1.mono hB.out.size)
        have x1 := (hN.below hb1).c0
        obtain rfl : i = 0 := by
          rcases Nat.eq_zero_or_pos i with e | e
          · exact e
          · have := hbn.lo 0 hnz e
            rw [nextP_gt (hBk _ (by rw [ents_cons]; exact List.mem_append_left _ (List.getElem_mem hnz)))] at this
            cases this
        obtain ⟨g, cap', hv', _, _⟩ := (tsr.mem.rowE _ hro).at_ hnz
        have HO : Hid (SkOut w nd j lv key is (.returned (.pointer (some ⟨g, 0 * 3, none⟩))) w1) := .some_ (A ++ [p]) q B 0 hnz g _ cap' rfl hbb hpl hv' (by
          rw [eL, next_out hA hBk hb hi0, ents_cons]
          exact head_app hnz)
        rw [hv'] at x1
        have hz : (0 : Int) < ((nd q.2).es.length : Int) := by omega
        clear hv' hA hBk eL hbn hleaf hB hN
        generalize (nd q.2).es.length = ne at *
        go_wp2
        try rw [Exit.noGoto_ret]
        go_ret
        exact HO.out
      · have hjl : j < H := by omega
        rw [decide_eq_false (fun e => hjH (hleaf.1 e))] at hil
        obtain ⟨_, c0, t0, e0⟩ := tsr.sh.inner j hjl q hq
        have hbf := branchFor_any (tsr.mem.at_ hro) (tsr.mem.rowB _ hro) (by rw [e0]; simp) hlb (tsr.sh.lows_in hjl hq) key
        go_wp2_with (go_at_call 34; refine hil.mono ?_; clear hil; rintro e wx ⟨rfl, hwx⟩; rw [hwx]; clear hwx wx)
        refine hbf.mono ?_
        clear hbf
        rintro e w1 ⟨i, he, hbr, hb1⟩
        subst he
        have hbb : Below w.heap.size w w1 := hB.out.trans (hb1.mono hB.out.size)
        obtain ⟨g, cap, x1, xs⟩ := (tsr.below hb1).rowB' hjl hq
        have hn0 : 0 < (nd q.2).bs.length := by rw [e0]; simp
        obtain rfl : i = 0 := hbr.zero hn0 (by simp only [e0, List.getElem_cons_zero]; exact hkl)
        have x2 := xs 0 hn0
        have HB1 : Hid (Below w.heap.size w w1) := hbb
        have HR : Hid (∀ v, Sk nd H lv key is (H - (j + 1)) (pt (nd q.2).bs[0].2) (.pointer v)) := fun v => by
          have hx : (nd q.2).bs[0] = (q.1, c0) := by simp [e0]
          refine .p2 (j + 1) (nd q.2).bs[0] v A p b B i0 (by omega) (by omega) ?_ (by rw [hx]; exact hkl) ?_ pa hb hi0
          · rw [tsr.sh.nx j hjl]
            exact List.mem_flatMap.2 ⟨q, hq, List.getElem_mem hn0⟩
          · rw [show H - j = (H - (j + 1)) + 1 by omega] at hl
            obtain ⟨x, t, h1, h2⟩ := hl
            have : (nd q.2).bs[0] = x := by simp [h1]
            rw [this]; exact h2
        have hz1 : (0 : Int) < ((nd q.2).bs.length : Int) := by omega
        by_cases hlt : 1 < (nd q.2).bs.length
        · have x3 := xs 1 hlt
          have hz : (1 : Int) < ((nd q.2).bs.length : Int) := by omega
          generalize (nd q.2).bs[0].2 = cA at *
          generalize (nd q.2).bs[1].2 = cC at *
          clear hB hbb xs hbr e0 hleaf
          generalize (nd q.2).bs.length = nb at *
          go_wp2
          go_roundg (H - (j + 1))
          case measure => omega
          case rel => exact ⟨_, Nat.le_refl _, HR.out _, HB1⟩
        · have hz : ¬ ((1 : Int) < ((nd q.2).bs.length : Int)) := by omega
          generalize (nd q.2).bs[0].2 = cA at *
          clear hB hbb xs hbr e0 hleaf
          generalize (nd q.2).bs.length = nb at *
          go_wp2
          go_roundg (H - (j + 1))
          case measure => omega
          case rel => exact ⟨_, Nat.le_refl _, HR.out _, HB1⟩
end Go.Proofs.Ytfobcnmhghfanaa
