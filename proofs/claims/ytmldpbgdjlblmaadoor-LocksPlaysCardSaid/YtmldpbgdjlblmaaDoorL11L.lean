/- Who waits for whom, one after another: the least above the last one; pure. The document's Edges. -/
import Derived.Test.YtmldpbgdjlblmaaDoorL11J
/- Who waits for whom, one after another: the least above the last one; pure. -/
namespace Go.Proofs.YtmldpbgdjlblmaaDoor
open Go.RowKit Go.Joins
set_option linter.unusedVariables false
set_option linter.unusedSimpArgs false

/-- One step of the search: z is 0, or the least so far. -/
def nst (last : Int) (z x : Int) : Int := if last < x ∧ (z = 0 ∨ x < z) then x else z
/-- The least of a list above a number; 0 if there is none. -/
def nx (last : Int) (l : List Int) : Int := l.foldl (nst last) 0
theorem nx_inv (last : Int) (l : List Int) (z : Int) (hl : ∀ x ∈ l, 1 ≤ x) (hz : z = 0 ∨ last < z ∧ 1 ≤ z) :
    (l.foldl (nst last) z = 0 ∧ z = 0 ∧ ∀ x ∈ l, ¬ last < x) ∨ (last < l.foldl (nst last) z ∧ 1 ≤ l.foldl (nst last) z ∧ (l.foldl (nst last) z = z ∨ l.foldl (nst last) z ∈ l) ∧ (z ≠ 0 → l.foldl (nst last) z ≤ z) ∧ ∀ x ∈ l, last < x → l.foldl (nst last) z ≤ x) := by
  induction l generalizing z with
  | nil =>
    rcases hz with rfl | ⟨h1, h2⟩
    · exact Or.inl ⟨rfl, rfl, by simp⟩
    · exact Or.inr ⟨h1, h2, Or.inl rfl, fun _ => Int.le_refl _, by simp⟩
  | cons a l ih =>
    rw [List.foldl_cons]
    have ha := hl a (by simp)
    have hl' : ∀ x ∈ l, 1 ≤ x := fun x hx => hl x (by simp [hx])
    by_cases hc : last < a ∧ (z = 0 ∨ a < z)
    · have e : nst last z a = a := if_pos hc
      rw [e]
      rcases ih a hl' (Or.inr ⟨hc.1, ha⟩) with ⟨_, h0, _⟩ | ⟨p1, p2, p3, p4, p5⟩
      · omega
      · right
        have q := p4 (by omega)
        refine ⟨p1, p2, Or.inr ?_, fun hz0 => ?_, fun x hx hlx => ?_⟩
        · rcases p3 with p3 | p3
          · rw [p3]; simp
          · simp [p3]
        · rcases hc.2 with h | h
          · exact absurd h hz0
          · omega
        · rcases List.mem_cons.1 hx with rfl | hx
          · exact q
          · exact p5 x hx hlx
    · have e : nst last z a = z := if_neg hc
      rw [e]
      rcases ih z hl' hz with ⟨p1, p2, p3⟩ | ⟨p1, p2, p3, p4, p5⟩
      · left
        refine ⟨p1, p2, fun x hx => ?_⟩
        rcases List.mem_cons.1 hx with rfl | hx
        · exact fun h => hc ⟨h, Or.inl p2⟩
        · exact p3 x hx
      · right
        refine ⟨p1, p2, p3.imp id (fun h => by simp [h]), p4, fun x hx hlx => ?_⟩
        rcases List.mem_cons.1 hx with rfl | hx
        · by_cases h0 : z = 0
          · exact absurd ⟨hlx, Or.inl h0⟩ hc
          · have := p4 h0
            have h3 : ¬ x < z := fun h => hc ⟨hlx, Or.inr h⟩
            omega
        · exact p5 x hx hlx
theorem nx_none {last : Int} {l : List Int} (hl : ∀ x ∈ l, 1 ≤ x) (h : nx last l = 0) : (sd l).filter (fun x => decide (last < x)) = [] := by
  rcases nx_inv last l 0 hl (Or.inl rfl) with ⟨_, _, p⟩ | ⟨_, p2, _⟩
  · rw [List.filter_eq_nil_iff]
    intro x hx
    simpa using p x (mem_sd.1 hx)
  · unfold nx at h; omega
theorem nx_some {last : Int} {l : List Int} (hl : ∀ x ∈ l, 1 ≤ x) (h : nx last l ≠ 0) : last < nx last l ∧ 1 ≤ nx last l ∧ (sd l).filter (fun x => decide (last < x)) = nx last l :: (sd l).filter (fun x => decide (nx last l < x)) := by
  rcases nx_inv last l 0 hl (Or.inl rfl) with ⟨p, _, _⟩ | ⟨p1, p2, p3, _, p5⟩
  · exact absurd p h
  · have hm : nx last l ∈ l := by
      rcases p3 with p3 | p3
      · exact absurd p3 h
      · exact p3
    refine ⟨p1, p2, sorted_unique ((sd_sorted l).filter _) ?_ (fun x => ?_)⟩
    · rw [List.pairwise_cons]
      exact ⟨fun x hx => by simpa using (List.mem_filter.1 hx).2, (sd_sorted l).filter _⟩
    · rw [List.mem_cons, List.mem_filter, List.mem_filter, mem_sd]
      simp only [decide_eq_true_eq]
      constructor
      · rintro ⟨h1, h2⟩
        have := p5 x h1 h2
        change nx last l ≤ x at this
        by_cases e : x = nx last l
        · exact Or.inl e
        · exact Or.inr ⟨h1, by omega⟩
      · rintro (rfl | ⟨h1, h2⟩)
        · exact ⟨hm, p1⟩
        · exact ⟨h1, Int.lt_trans p1 h2⟩
/-- The step over requests: those alone count that hinder. -/
def nsk (L : List Rq) (i : Nat) (last : Int) (z : Int) (k : Nat) : Int := if blk L k i then nst last z (txAt L k) else z
theorem nsk_all (L : List Rq) (i : Nat) (last z : Int) (ks : List Nat) : ks.foldl (nsk L i last) z = ((ks.filter fun k => blk L k i).map (txAt L)).foldl (nst last) z := by
  induction ks generalizing z with
  | nil => rfl
  | cons k ks ih =>
    rw [List.foldl_cons, ih]
    by_cases h : blk L k i = true
    · simp [nsk, h]
    · simp [nsk, h]
theorem nsk_nx (L : List Rq) (i : Nat) (last : Int) : (List.range L.length).foldl (nsk L i last) 0 = nx last (bks L i) := nsk_all L i last 0 _
theorem nsk_succ (L : List Rq) (i : Nat) (last z : Int) (k : Nat) : (List.range (k + 1)).foldl (nsk L i last) z = nsk L i last ((List.range k).foldl (nsk L i last) z) k := by
  rw [List.range_succ, List.foldl_append]; rfl
theorem bks_one {L : List Rq} (h : ∀ r ∈ L, 1 ≤ r.tx) (i : Nat) : ∀ x ∈ bks L i, 1 ≤ x := by
  intro x hx
  unfold bks at hx
  rw [List.mem_map] at hx
  obtain ⟨k, hk, rfl⟩ := hx
  have hkl : k < L.length := by simpa using (List.mem_filter.1 hk).1
  simp only [txAt, List.getElem?_eq_getElem hkl]
  exact h _ (List.getElem_mem hkl)
/-- The edges of one request that are above a number. -/
def eAb (L : List Rq) (i : Nat) (tx last : Int) : List (Int × Int) := ((sd (bks L i)).filter fun x => decide (last < x)).map fun t => (tx, t)
theorem eAb_zero {L : List Rq} (h : ∀ r ∈ L, 1 ≤ r.tx) {i : Nat} (hi : i < L.length) (hg : L[i].gr = false) : eAb L i L[i].tx 0 = edgesAt L i := by
  unfold eAb edgesAt
  rw [List.getElem?_eq_getElem hi]
  simp only [hg]
  rw [List.filter_eq_self.2 (fun x hx => by have := bks_one h i x (mem_sd.1 hx); exact decide_eq_true (by omega))]
  rfl
theorem edges_succ (L : List Rq) (i : Nat) : (List.range (i + 1)).flatMap (edgesAt L) = (List.range i).flatMap (edgesAt L) ++ edgesAt L i := by
  rw [List.range_succ, List.flatMap_append]; simp
end Go.Proofs.YtmldpbgdjlblmaaDoor

/- The document's Edges. -/
namespace Go.Proofs.YtmldpbgdjlblmaaDoor
open Go.RowKit Go.Joins
set_option linter.unusedVariables false
set_option linter.unusedSimpArgs false

theorem OwnP.keepB {base : Nat} {w w' : World} {v : Value} {l : List (Int × Int)} (h : OwnP base w v l) (hb : Below w.heap.size w w') : OwnP base w' v l :=
  Row.of_block h (fun c hc => hb.block c (Row.lo h c hc).2)
theorem ins_len (x : Int) (l : List Int) : (ins x l).length ≤ l.length + 1 := by
  induction l with
  | nil => simp [ins]
  | cons a l ih =>
    unfold ins
    split
    · simp
    · split
      · simp
      · simp; omega
theorem sd_len (l : List Int) : (sd l).length ≤ l.length := by
  induction l with
  | nil => simp [sd]
  | cons a l ih =>
    have := ins_len a (sd l)
    show (ins a (sd l)).length ≤ _
    simp; omega
theorem edgesAt_len (L : List Rq) (i : Nat) : (edgesAt L i).length ≤ L.length := by
  unfold edgesAt
  split
  · simp
  · split
    · simp
    · rw [List.length_map]
      refine Nat.le_trans (sd_len _) ?_
      unfold bks
      rw [List.length_map]
      refine Nat.le_trans (List.length_filter_le _ _) ?_
      simp
theorem edges_len (L : List Rq) (i : Nat) : ((List.range i).flatMap (edgesAt L)).length ≤ i * L.length := by
  induction i with
  | zero => simp
  | succ i ih =>
    rw [edges_succ, List.length_append, Nat.succ_mul]
    have := edgesAt_len L i
    omega
/-- Where the edges of one request stand: those below are there, those above are left. -/
structure EMid (L : List Rq) (i : Nat) (tx last : Int) (out : List (Int × Int)) : Prop where
  is : out ++ eAb L i tx last = (List.range (i + 1)).flatMap (edgesAt L)
theorem EMid.start {L : List Rq} (h : ∀ r ∈ L, 1 ≤ r.tx) {i : Nat} (hi : i < L.length) (hg : L[i].gr = false) : EMid L i L[i].tx 0 ((List.range i).flatMap (edgesAt L)) := ⟨by rw [edges_succ, eAb_zero h hi hg]⟩
theorem EMid.len {L : List Rq} {i : Nat} {tx last : Int} {out : List (Int × Int)} (h : EMid L i tx last out) (hi : i < L.length) (hl : L.length ≤ 10000) : out.length ≤ 100000000 := by
  have h1 := congrArg List.length h.is
  have h2 := edges_len L (i + 1)
  rw [List.length_append] at h1
  have h3 : (i + 1) * L.length ≤ 10000 * 10000 := Nat.mul_le_mul (by omega) hl
  omega
theorem EMid.done {L : List Rq} (h1 : ∀ r ∈ L, 1 ≤ r.tx) {i : Nat} {tx last : Int} {out : List (Int × Int)} (h : EMid L i tx last out) (hn : nx last (bks L i) = 0) : out = (List.range (i + 1)).flatMap (edgesAt L) := by
  have := h.is
  rw [eAb, nx_none (bks_one h1 i) hn] at this
  simpa using this
theorem EMid.step {L : List Rq} (h1 : ∀ r ∈ L, 1 ≤ r.tx) {i : Nat} {tx last : Int} {out : List (Int × Int)} (h : EMid L i tx last out) (hn : nx last (bks L i) ≠ 0) : EMid L i tx (nx last (bks L i)) (out ++ [(tx, nx last (bks L i))]) ∧ (eAb L i tx (nx last (bks L i))).length < (eAb L i tx last).length := by
  obtain ⟨_, _, e⟩ := nx_some (bks_one h1 i) hn
  have e2 : eAb L i tx last = (tx, nx last (bks L i)) :: eAb L i tx (nx last (bks L i)) := by unfold eAb; rw [e]; rfl
  refine ⟨⟨?_⟩, by rw [e2]; simp⟩
  have := h.is
  rw [e2] at this
  rw [List.append_assoc]
  exact this
set_option maxRecDepth 100000 in
set_option maxHeartbeats 8000000 in
theorem redges_any {w : World} {t : Nat} {most : Int} {ao : Option Addr} {cap : Nat} {L : List Rq} (h : QTab w t most ao cap L) (hl : L.length ≤ 10000) (hone : ∀ r ∈ L, 1 ≤ r.tx) :
    Calls Tryd.prog 22 #[.pointer (some ⟨t, 0, none⟩)] w fun e w' => ∃ so m cp, e = .returned (.slice so m cp) ∧ OwnP w.heap.size w' (.slice so m cp) (edgesF L) ∧ Below w.heap.size w w' := by
  have HT0 : Hid (QTab w t most ao cap L) := h
  have HN : Hid (∀ r ∈ L, 1 ≤ r.tx) := hone
  have hle := h.le
  have HZ : Hid (OwnP w.heap.size w (.slice none 0 0) ((List.range 0).flatMap (edgesAt L))) := Row.nil_ _ _ _ _ _
  clear h hone
  go_enter Tryd.func22, Tryd.ntmps22
  go_wp2_with fail
  go_loopw [3, 4] (fun ov x wr => ∃ (i : Nat) (so : Option Addr) (sn sc : Nat), ov = .slice so sn sc ∧ x = .int .i64 i ∧ i ≤ L.length ∧ Hid (OwnP w.heap.size wr (.slice so sn sc) ((List.range i).flatMap (edgesAt L))) ∧ Hid (Below w.heap.size w wr)) (fun _ x _ => L.length - (intOf x).toNat)
  case atStart => exact ⟨0, none, 0, 0, rfl, rfl, Nat.zero_le _, HZ, Below.refl _ _⟩
  case round =>
    rename World => wr
    obtain ⟨i, so, sn, sc, rfl, rfl, hi, HR, HB⟩ := hrel
    clear HZ
    have hT := HT0.out.keep HB.out
    have c1 := hT.l
    by_cases hlt : i < L.length
    · have ti : decide ((i : Int) < (L.length : Int)) = true := decide_eq_true (by omega)
      have hi2 : (i : Int) < (L.length : Int) := by omega
      obtain ⟨g, rfl, hq⟩ := hT.at_ hlt
      have q7 := hq.c7
      clear hq hT
      cases hg : L[i].gr with
      | true =>
        rw [hg] at q7
        have HR2 : Hid (OwnP w.heap.size wr (.slice so sn sc) ((List.range (i + 1)).flatMap (edgesAt L))) := by
          have e : edgesAt L i = [] := by unfold edgesAt; rw [List.getElem?_eq_getElem hlt]; simp [hg]
          rw [edges_succ, e, List.append_nil]; exact HR.out
        clear HR hg
        go_wp2_with fail
        go_roundw
        case rel => exact ⟨i + 1, so, sn, sc, rfl, by go_num, by omega, HR2, HB⟩
        case measure => simp [intOf]; omega
      | false =>
        rw [hg] at q7
        have HE0 := EMid.start HN.out hlt hg
        clear hg
        go_wp2_with fail
        go_loopw [3, 5] (fun ov lv wq => ∃ (last : Int) (out : List (Int × Int)) (so : Option Addr) (sn sc : Nat), ov = .slice so sn sc ∧ lv = .int .i64 last ∧ Hid (EMid L i L[i].tx last out) ∧ Hid (OwnP w.heap.size wq (.slice so sn sc) out) ∧ Hid (Below w.heap.size w wq)) (fun _ lv _ => (eAb L i L[i].tx (intOf lv)).length)
        case atStart => exact ⟨0, _, so, sn, sc, rfl, rfl, HE0, HR, HB⟩
        case round =>
          rename World => wq
          obtain ⟨last, out, so', sn', sc', rfl, rfl, HE, HRo, HBq⟩ := hrel
          clear HE0 HR HB c1 q7
          go_wp2_with fail
          go_loopw [6, 7] (fun nv kv ws => ∃ (k : Nat) (z : Int), nv = .int .i64 z ∧ kv = .int .i64 k ∧ k ≤ L.length ∧ Hid (z = (List.range k).foldl (nsk L i last) 0) ∧ Hid (Below wq.heap.size wq ws)) (fun _ kv _ => L.length - (intOf kv).toNat)
          case atStart => exact ⟨0, 0, rfl, rfl, Nat.zero_le _, rfl, Below.refl _ _⟩
          case round =>
            rename World => ws
            obtain ⟨k, z, rfl, rfl, hk, HK, HBs⟩ := hrel
            have hT := HT0.out.keep (keepA HBq.out HBs.out)
            have c1 := hT.l
            by_cases hkl : k < L.length
            · have tk : decide ((k : Int) < (L.length : Int)) = true := decide_eq_true (by omega)
              have hk2 : (k : Int) < (L.length : Int) := by omega
              have hbl := rblocks_any hT (by omega) hkl hlt
              obtain ⟨g', e', hq⟩ := hT.at_ hkl
              cases e'
              have hnk := nsk_succ L i last 0 k
              rw [← HK.out] at hnk
              have htx : txAt L k = L[k].tx := by simp [txAt, List.getElem?_eq_getElem hkl]
              unfold nsk at hnk
              rw [htx] at hnk
              clear htx HK
              cases hb : blk L k i with
              | false =>
                rw [hb] at hbl hnk
                have HK2 : Hid (z = (List.range (k + 1)).foldl (nsk L i last) 0) := by rw [show ((List.range (k + 1)).foldl (nsk L i last) 0) = _ from hnk]; rfl
                clear hnk hb hq hT
                go_wp2_with fail
                refine hbl.mono ?_
                clear hbl
                rintro e w2 ⟨rfl, hb2⟩
                have HB2 : Hid (Below wq.heap.size wq w2) := keepA HBs.out hb2
                clear hb2 HBs
                go_wp2_with fail
                go_roundw
                case rel => exact ⟨k + 1, z, rfl, by go_num, by omega, HK2, HB2⟩
                case measure => simp [intOf]; omega
              | true =>
                rw [hb, if_pos rfl] at hnk
                rw [hb] at hbl
                unfold nst at hnk
                have HNK : Hid ((List.range (k + 1)).foldl (nsk L i last) 0 = if last < L[k].tx ∧ (z = 0 ∨ L[k].tx < z) then L[k].tx else z) := hnk
                clear hnk hb
                go_wp2_with fail
                refine hbl.mono ?_
                clear hbl
                rintro e w2 ⟨rfl, hb2⟩
                have HB2 : Hid (Below wq.heap.size wq w2) := keepA HBs.out hb2
                have c2 := (hT.keep hb2).l
                have q0 := (hq.keep hb2).c0
                clear hb2 HBs hq hT c1
                generalize L[k].tx = x at *
                by_cases h1 : last < x
                · have d1 : decide (last < x) = true := decide_eq_true h1
                  have d1' : decide (x > last) = true := decide_eq_true h1
                  by_cases h2 : z = 0
                  · subst h2
                    have HK2 : Hid (x = (List.range (k + 1)).foldl (nsk L i last) 0) := by rw [HNK.out, if_pos ⟨h1, Or.inl rfl⟩]; rfl
                    clear HNK
                    go_wp2_with fail
                    go_roundw
                    case rel => exact ⟨k + 1, x, rfl, by go_num, by omega, HK2, HB2⟩
                    case measure => simp [intOf]; omega
                  · have d2 : (z == 0) = false := by simpa using h2
                    by_cases h3 : x < z
                    · have d3 : decide (x < z) = true := decide_eq_true h3
                      have HK2 : Hid (x = (List.range (k + 1)).foldl (nsk L i last) 0) := by rw [HNK.out, if_pos ⟨h1, Or.inr h3⟩]; rfl
                      clear HNK
                      go_wp2_with fail
                      go_roundw
                      case rel => exact ⟨k + 1, x, rfl, by go_num, by omega, HK2, HB2⟩
                      case measure => simp [intOf]; omega
                    · have d3 : decide (x < z) = false := decide_eq_false h3
                      have HK2 : Hid (z = (List.range (k + 1)).foldl (nsk L i last) 0) := by rw [HNK.out, if_neg (by rintro ⟨_, h | h⟩; exact h2 h; exact h3 h)]; rfl
                      clear HNK
                      go_wp2_with fail
                      go_roundw
                      case rel => exact ⟨k + 1, z, rfl, by go_num, by omega, HK2, HB2⟩
                      case measure => simp [intOf]; omega
                · have d1 : decide (last < x) = false := decide_eq_false h1
                  have d1' : decide (x > last) = false := decide_eq_false h1
                  have HK2 : Hid (z = (List.range (k + 1)).foldl (nsk L i last) 0) := by rw [HNK.out, if_neg (fun h => h1 h.1)]; rfl
                  clear HNK
                  go_wp2_with fail
                  go_roundw
                  case rel => exact ⟨k + 1, z, rfl, by go_num, by omega, HK2, HB2⟩
                  case measure => simp [intOf]; omega
            · have tk : decide ((k : Int) < (L.length : Int)) = false := decide_eq_false (by omega)
              obtain rfl : k = L.length := by omega
              have hz : z = nx last (bks L i) := by rw [← nsk_nx]; exact HK.out
              clear HK
              by_cases hz0 : z = 0
              · subst hz0
                have HR2 : Hid (OwnP w.heap.size ws (.slice so' sn' sc') ((List.range (i + 1)).flatMap (edgesAt L))) := by rw [← HE.out.done HN.out hz.symm]; exact OwnP.keepB HRo.out HBs.out
                have HB2 : Hid (Below w.heap.size w ws) := keepA HBq.out HBs.out
                clear HRo HBs HE hz hT
                go_wp2_with fail
                go_roundw
                case rel => exact ⟨i + 1, so', sn', sc', rfl, by go_num, by omega, HR2, HB2⟩
                case measure => simp [intOf]; omega
              · have d0 : (z == 0) = false := by simpa using hz0
                obtain ⟨g', e', hqi⟩ := hT.at_ hlt
                cases e'
                have q0 := hqi.c0
                have hst := EMid.step HN.out HE.out (hz ▸ hz0)
                rw [← hz] at hst
                have HM : Hid ((eAb L i L[i].tx z).length < (eAb L i L[i].tx last).length) := hst.2
                have HE2 : Hid (EMid L i L[i].tx z (out ++ [(L[i].tx, z)])) := hst.1
                have hln := HE.out.len hlt hl
                have hsn := Row.len HRo.out
                subst hsn
                clear hst hqi hz hz0 HE hT
                generalize hx : L[i].tx = x at *
                have hR0 := OwnP.keepB HRo.out HBs.out
                have hrA : OwnP w.heap.size (ws.alloc (.cells #[.int .i64 x, .int .i64 z] 55)) (.slice so' out.length sc') out := World.ownsRow.alloc hR0 _
                have hnA := heap_alloc_new ws (.cells #[.int .i64 x, .int .i64 z] 55)
                have hB0 : Below w.heap.size w ws := keepA HBq.out HBs.out
                have hbA : Below ws.heap.size ws (ws.alloc (.cells #[.int .i64 x, .int .i64 z] 55)) := (Below.refl _ _).alloc (Nat.le_refl _) _
                have hsA : w.heap.size ≤ (ws.alloc (.cells #[.int .i64 x, .int .i64 z] 55)).heap.size := Nat.le_trans hB0.size hbA.size
                have HST : Hid (∀ (w3 : World), (ws.alloc (.cells #[.int .i64 x, .int .i64 z] 55)).grownBy w3 (Value.slice so' out.length sc').ownBlock → Below w.heap.size w w3) := fun w3 g2 => by
                  have hf : Fr (ws.alloc (.cells #[.int .i64 x, .int .i64 z] 55)) w3 (fun i => (Value.slice so' out.length sc').ownBlock = some i) := Fr.of_grown g2 (fun i hi => hi)
                  exact (hB0.trans (hbA.mono hB0.size)).trans (hf.below hsA (fun i hi => (Row.lo hrA i hi).1))
                clear hR0 hB0 hbA HRo HBs HBq
                go_wp2_with (at_builtin; refine wp_appP _ rfl _ _ rfl w.heap.size _ out rfl hrA ws.heap.size (x, z) rfl hnA hln hsA ?_)
                intro g' cp' w3 g1 g2 g3
                have HB3 : Hid (Below w.heap.size w w3) := HST.out w3 g2
                have HR3 : Hid (OwnP w.heap.size w3 (.slice (some ⟨g', 0, none⟩) (out.length + 1) cp') (out ++ [(x, z)])) := g1
                clear g1 g2 g3 HST hrA hnA hsA
                go_wp2_with fail
                go_roundw
                case rel => exact ⟨z, _, _, _, _, rfl, rfl, hx.symm ▸ HE2, HR3, HB3⟩
                case measure => rw [hx]; exact HM.out
    · have ti : decide ((i : Int) < (L.length : Int)) = false := decide_eq_false (by omega)
      obtain rfl : i = L.length := by omega
      have hF : OwnP w.heap.size wr (.slice so sn sc) (edgesF L) := HR.out
      clear hT
      go_wp2_with fail
      go_ret
      exact ⟨_, _, _, rfl, hF, HB.out⟩
end Go.Proofs.YtmldpbgdjlblmaaDoor
