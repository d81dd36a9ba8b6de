/- The document's table of locks as it lies: wake. -/
import Derived.Test.YtmldpbgdjlblmaaDoorL11E
import Derived.Test.YtmldpbgdjlblmaaDoorG11
namespace Go.Proofs.YtmldpbgdjlblmaaDoor
open Go.RowKit Go.Joins
set_option linter.unusedVariables false
set_option linter.unusedSimpArgs false

theorem rqc_len (l : List Rq) : ∀ x ∈ l, (Rq.cells x).length = 9 := fun _ _ => rfl
abbrev OwnQ (base : Nat) (w : World) (v : Value) (l : List Rq) : Prop := Row 53 9 Rq.cells base w v l
/-- The document's table as it lies. -/
structure QOwn (base : Nat) (w : World) (t : Nat) (most : Int) (lv : Value) (L : List Rq) : Prop where
  tb : w.heap[t]? = some (.cells #[.int .i64 most, lv] 31 (0, 0))
  row : OwnQ base w lv L
  ne : lv.ownBlock ≠ some t
  lo : base ≤ t
theorem OwnQ.rq {base : Nat} {w : World} {g n cap : Nat} {L : List Rq} (h : OwnQ base w (.slice (some ⟨g, 0, none⟩) n cap) L) {k : Nat} (hk : k < L.length) : RqAt w g k L[k] := by
  have c := fun j hj => Row.cell h (rqc_len L) k hk j hj
  exact ⟨c 0 (by omega), c 1 (by omega), c 2 (by omega), c 3 (by omega), c 4 (by omega), c 5 (by omega), c 6 (by omega), c 7 (by omega), c 8 (by omega)⟩
theorem QOwn.tab {base : Nat} {w : World} {t : Nat} {most : Int} {lv : Value} {L : List Rq} (h : QOwn base w t most lv L) : ∃ ao cap, lv = .slice ao L.length cap ∧ QTab w t most ao cap L := by
  rcases id h.row with ⟨_, ⟨hv, hn⟩ | ⟨g, cap, cur, hv, hg, hh, hc, _⟩⟩
  · refine ⟨none, 0, by rw [hv, hn], ⟨by rw [cell_of_row w t 0 _ _ _ h.tb]; rfl, by rw [cell_of_row w t 1 _ _ _ h.tb, hn]; show some lv = _; rw [hv], by omega, Or.inl (List.eq_nil_of_length_eq_zero hn)⟩⟩
  · refine ⟨some ⟨g, 0, none⟩, cap, hv, ⟨by rw [cell_of_row w t 0 _ _ _ h.tb]; rfl, by rw [cell_of_row w t 1 _ _ _ h.tb]; show some lv = _; rw [hv], hc, Or.inr ⟨g, rfl, fun k hk => ?_⟩⟩⟩
    have hr := h.row
    rw [hv] at hr
    exact OwnQ.rq hr hk
theorem QOwn.keep {base : Nat} {w w' : World} {t : Nat} {most : Int} {lv : Value} {L : List Rq} {S : Nat → Prop} (h : QOwn base w t most lv L) (hf : Fr w w' S) (h1 : ¬ S t) (h2 : ∀ c, lv.ownBlock = some c → ¬ S c) : QOwn base w' t most lv L :=
  ⟨(hf.block t (Array.getElem?_eq_some_iff.1 h.tb).1 h1).trans h.tb, h.row.of_block (fun c hc => hf.block c (h.row.lo c hc).2 (h2 c hc)), h.ne, h.lo⟩
theorem QOwn.keepB {base : Nat} {w w' : World} {t : Nat} {most : Int} {lv : Value} {L : List Rq} (h : QOwn base w t most lv L) (hb : Below w.heap.size w w') : QOwn base w' t most lv L :=
  h.keep (Fr.of_below (F := fun _ => False) hb) (fun h => h) (fun _ _ h => h)
theorem flat_set (L : List Rq) : ∀ (i : Nat), i < L.length → (L.flatMap Rq.cells).set (i * 9 + 7) (.bool true) = (grant L i).flatMap Rq.cells := by
  induction L with
  | nil => intro i hi; simp at hi
  | cons a l ih =>
    intro i hi
    cases i with
    | zero => rfl
    | succ i =>
      rw [List.flatMap_cons]
      have e : (i + 1) * 9 + 7 = (Rq.cells a).length + (i * 9 + 7) := by show _ = 9 + _; omega
      rw [e, List.set_append, if_neg (by omega), Nat.add_sub_cancel_left]
      show _ = Rq.cells a ++ (grant l i).flatMap Rq.cells
      rw [← ih i (by simpa using hi)]
theorem grant_len (L : List Rq) (i : Nat) : (grant L i).length = L.length := by simp [grant]
theorem QOwn.gr {base : Nat} {w : World} {t : Nat} {most : Int} {g n cap : Nat} {L : List Rq} (h : QOwn base w t most (.slice (some ⟨g, 0, none⟩) n cap) L) {i : Nat} (hi : i < L.length) : QOwn base (w.setCell ⟨g, i * 9 + 7, none⟩ (.bool true)) t most (.slice (some ⟨g, 0, none⟩) n cap) (grant L i) := by
  obtain ⟨h1, h2, h3, h4⟩ := h
  have hn := Row.len h2
  subst hn
  have hs := (World.ownsRow.stored h2 (i * 9 + 7) (.bool true)).1
  rw [flat_set L i hi] at hs
  have hf := fr_set w g (i * 9 + 7) (.bool true)
  refine ⟨(hf.block t (Array.getElem?_eq_some_iff.1 h1).1 (fun e => h3 (by rw [e]; rfl))).trans h1, ?_, h3, h4⟩
  show World.ownsRow _ _ _ _ _ _ _
  rw [grant_len]
  exact hs
theorem infoI11 : (Tryd.prog.info? 3).map (fun i => (i.zero, i.size, i.bytes)) = some (some (.int .i64 0), 1, 8) := by kernel_rfl
/-- append, to a row of numbers, of one more. -/
theorem wp_appI11 (w : World) {ops : Array Oper} {rest : List Oper} {o : Oper} {a : Act} {Q : Exit → Act → World → Prop} (hgd : o.guard = none) (s x : Operand)
    (ho : o.op = .call { callee := .builtin .append, args := #[s, x], argTypes := #[40, 40] })
    (base : Nat) (v : Value) (n : Nat) (vs : List Value) (hs : a.eval s = v) (hown : w.ownsRow base 3 1 v n vs) (Bk : Nat) (u : Value) (hx : a.eval x = .slice (some ⟨Bk, 0, none⟩) 1 1) (hB : w.heap[Bk]? = some (.cells #[u] 3 (0, 0))) (hu : u.oneCell' = true) (hl : n ≤ 1000000) (hbase : base ≤ w.heap.size)
    (h : ∀ g cap w', w'.ownsRow base 3 1 (.slice (some ⟨g, 0, none⟩) (n + 1) cap) (n + 1) (vs ++ [u]) → w.grownBy w' v.ownBlock → wpList Tryd.prog ops Q rest (a.put o.dst (.slice (some ⟨g, 0, none⟩) (n + 1) cap)) w') : wpList Tryd.prog ops Q (o :: rest) a w := by
  obtain ⟨i0, hi, hz0, hz1, hz2⟩ := info_parts infoI11
  refine wpList_append_lies w hgd s x 40 ho base 3 i0 (.int .i64 0) 1 8 Tryd.underlying40 hi hz0 hz1 hz2 rfl (by decide) v n vs hs hown ⟨Bk, 0, none⟩ 1 1 [u] hx rfl (World.news_of_block hB) (by intro y hy; simp at hy; rw [hy]; exact hu) (by decide) (by unfold maxLen; omega) (by omega) hbase w.heap.size rfl ?_
  intro g cap w' h1 h2 h3 _
  exact h g cap w' h1 h2
/-- Where wake stands: the table, who was woken so far, what may have changed. -/
structure WkSt (base : Nat) (w0 : World) (t : Nat) (most : Int) (lv : Value) (L0 : List Rq) (w : World) (ov : Value) (out : List Int) (L : List Rq) : Prop where
  own : QOwn base w t most lv L
  row : w.ownsRow w0.heap.size 3 1 ov out.length (out.map (Value.int .i64))
  fr : Fr w0 w (fun i => lv.ownBlock = some i)
  res : wake L0 = ((wake L).1, out ++ (wake L).2)
  len : L.length = L0.length
  few : out.length + wc L ≤ wc L0
theorem WkSt.keepB {base : Nat} {w0 : World} {t : Nat} {most : Int} {lv : Value} {L0 : List Rq} {w w' : World} {ov : Value} {out : List Int} {L : List Rq} (h : WkSt base w0 t most lv L0 w ov out L) (hb : Below w.heap.size w w') : WkSt base w0 t most lv L0 w' ov out L :=
  ⟨h.own.keepB hb, own_of_block h.row (fun c hc => hb.block c (World.ownsRow.lt h.row c hc).2), h.fr.trans (Fr.of_below (F := fun _ => False) hb) (fun j hj => hj.elim), h.res, h.len, h.few⟩
theorem wc_le (L : List Rq) : wc L ≤ L.length := List.countP_le_length
theorem WkSt.step {base : Nat} {w0 : World} {t : Nat} {most : Int} {g n cap : Nat} {L0 : List Rq} {w w3 : World} {ov : Value} {out : List Int} {L : List Rq} (h : WkSt base w0 t most (.slice (some ⟨g, 0, none⟩) n cap) L0 w ov out L) (hg0 : g < w0.heap.size) (ht0 : t < w0.heap.size) {i : Nat} (hi : fm L = some i) {tx : Int} (htx : txAt L i = tx) {g' cp' : Nat} {o : Obj}
    (h1 : w3.ownsRow w0.heap.size 3 1 (.slice (some ⟨g', 0, none⟩) (out.length + 1) cp') (out.length + 1) (out.map (Value.int .i64) ++ [.int .i64 tx])) (h2 : ((w.setCell ⟨g, i * 9 + 7, none⟩ (.bool true)).alloc o).grownBy w3 ov.ownBlock) : WkSt base w0 t most (.slice (some ⟨g, 0, none⟩) n cap) L0 w3 (.slice (some ⟨g', 0, none⟩) (out.length + 1) cp') (out ++ [tx]) (grant L i) := by
  obtain ⟨k1, k2, k3⟩ := fm_some hi
  have q1 := h.own.gr k2
  have hfs := fr_set w g (i * 9 + 7) (.bool true)
  have hfa : Fr (w.setCell ⟨g, i * 9 + 7, none⟩ (.bool true)) ((w.setCell ⟨g, i * 9 + 7, none⟩ (.bool true)).alloc o) (fun _ => False) := Fr.of_below ((Below.refl _ _).alloc (Nat.le_refl _) _)
  have hfg : Fr ((w.setCell ⟨g, i * 9 + 7, none⟩ (.bool true)).alloc o) w3 (fun j => ov.ownBlock = some j) := Fr.of_grown h2 (fun j hj => hj)
  have hov : ∀ j, ov.ownBlock = some j → w0.heap.size ≤ j := fun j hj => (World.ownsRow.lt h.row j hj).1
  have q2 := (q1.keepB ((Below.refl _ _).alloc (Nat.le_refl _) o)).keep hfg (fun e => by have := hov t e; omega) (fun c hc e => by have := hov c e; simp only [Value.ownBlock, Option.some.injEq] at hc; omega)
  refine ⟨q2, by simpa using h1, ?_, ?_, by rw [grant_len]; exact h.len, ?_⟩
  · refine ((h.fr.trans hfs (fun j hj => Or.inl (by rw [hj]; rfl))).trans hfa (fun j hj => hj.elim)).trans hfg (fun j hj => Or.inr (hov j hj))
  · rw [h.res, wake_some hi, htx]
    simp
  · have := grant_wc k1
    have := h.few
    rw [List.length_append, List.length_singleton]
    omega
set_option maxRecDepth 100000 in
set_option maxHeartbeats 8000000 in
theorem rwake_any {base : Nat} {w : World} {t : Nat} {most : Int} {lv : Value} {L : List Rq} (h : QOwn base w t most lv L) (hl : L.length ≤ 100000) :
    Calls Tryd.prog 59 #[.pointer (some ⟨t, 0, none⟩)] w fun e w' => ∃ ao m cp, e = .returned (.slice ao m cp) ∧ w'.ownsRow w.heap.size 3 1 (.slice ao m cp) (wake L).2.length ((wake L).2.map (Value.int .i64)) ∧ QOwn base w' t most lv (wake L).1 ∧ Fr w w' (fun i => lv.ownBlock = some i) := by
  have ht0 : t < w.heap.size := (Array.getElem?_eq_some_iff.1 h.tb).1
  have HZ : Hid (WkSt base w t most lv L w (.slice none 0 0) [] L) := ⟨h, ⟨rfl, Or.inl ⟨rfl, rfl⟩⟩, Fr.refl _ _, by simp, rfl, by simp⟩
  have hrl := h.row.lo
  have hwl := wc_le L
  clear h
  go_enter Tryd.func59, Tryd.ntmps59
  go_wp2_with fail
  go_loopg [3, 4] (wc L * (L.length + 1) + L.length) (fun kx sv x wr => ∃ (k : Nat) (so : Option Addr) (sn sc : Nat) (out : List Int) (Lc : List Rq), sv = .slice so sn sc ∧ x = .int .i64 k ∧ k ≤ L.length ∧ wc Lc * (L.length + 1) + (L.length - k) ≤ kx ∧ Hid (∀ j, j < k → isMay Lc j = false) ∧ Hid (WkSt base w t most lv L wr (.slice so sn sc) out Lc))
  case atStart => exact ⟨0, none, 0, 0, [], L, rfl, rfl, Nat.zero_le _, by omega, fun j hj => by omega, HZ⟩
  case round =>
    rename World => wr
    obtain ⟨k, so, sn, sc, out, Lc, rfl, rfl, hk, hkx, HN, HS⟩ := hrel
    clear HZ
    obtain ⟨ao, cap, hlv, hT⟩ := HS.out.own.tab
    have c1 := hT.l
    have hlen := HS.out.len
    rw [hlen] at c1 hlv
    by_cases hlt : k < L.length
    · have tk : decide ((k : Int) < (L.length : Int)) = true := decide_eq_true (by omega)
      have hk2 : (k : Int) < (L.length : Int) := by omega
      have hkc : k < Lc.length := by omega
      obtain ⟨g, hao, hq⟩ := hT.at_ hkc
      subst hao
      have hm := rmay_any hT (by omega) hkc
      rw [may_all (List.getElem?_eq_getElem hkc)] at hm
      have q0 := hq.c0
      have q7 := hq.c7
      have hisM : isMay Lc k = (!Lc[k].gr && mayP (Lc.take k) Lc[k] (Lc.drop (k + 1))) := by simp only [isMay, List.getElem?_eq_getElem hkc]
      have htx : txAt Lc k = Lc[k].tx := txAt_of (List.getElem?_eq_getElem hkc)
      have HSU : Hid (isMay Lc k = false → ∀ j, j < k + 1 → isMay Lc j = false) := fun hh j hj => by
        by_cases e : j = k
        · subst e; exact hh
        · exact HN.out j (by omega)
      have HFM : Hid (isMay Lc k = true → fm Lc = some k) := fun hh => fm_at hkc hh HN.out
      have hle := hT.le
      rw [hlen] at hle
      have hgl : g < w.heap.size := (hrl g (by rw [hlv]; rfl)).2
      clear hT HN hq
      cases hg : Lc[k].gr with
      | true =>
        rw [hg] at q7 hisM
        have HS1 : Hid (∀ j, j < k + 1 → isMay Lc j = false) := HSU.out (by rw [hisM]; rfl)
        clear hm HSU HFM hisM htx hg
        go_wp2_with fail
        go_roundg (wc Lc * (L.length + 1) + (L.length - (k + 1)))
        case measure => omega
        case rel => exact ⟨k + 1, so, sn, sc, out, Lc, rfl, by go_num, by omega, Nat.le_refl _, HS1, HS⟩
      | false =>
        rw [hg] at q7 hisM
        cases hmm : mayP (Lc.take k) Lc[k] (Lc.drop (k + 1)) with
        | false =>
          rw [hmm] at hm hisM
          have HS1 : Hid (∀ j, j < k + 1 → isMay Lc j = false) := HSU.out (by rw [hisM]; rfl)
          clear HSU HFM hisM htx hg hmm q0
          go_wp2_with fail
          refine hm.mono ?_
          clear hm
          rintro e w2 ⟨rfl, hb2⟩
          have HS2 : Hid (WkSt base w t most lv L w2 (.slice so sn sc) out Lc) := HS.out.keepB hb2
          clear HS hb2
          go_wp2_with fail
          go_roundg (wc Lc * (L.length + 1) + (L.length - (k + 1)))
          case measure => omega
          case rel => exact ⟨k + 1, so, sn, sc, out, Lc, rfl, by go_num, by omega, Nat.le_refl _, HS1, HS2⟩
        | true =>
          rw [hmm] at hm hisM
          have hfm := HFM.out (by rw [hisM]; rfl)
          have hwc := grant_wc (fm_some hfm).1
          have hmul : wc Lc * (L.length + 1) = wc (grant Lc k) * (L.length + 1) + (L.length + 1) := by rw [hwc, Nat.succ_mul]
          clear HSU HFM hisM hg hmm
          go_wp2_with fail
          refine hm.mono ?_
          clear hm
          rintro e w2 ⟨rfl, hb2⟩
          have hs2 := HS.out.keepB hb2
          have q0' := cell_keep hb2 q0
          have q7' := cell_keep hb2 q7
          have c1' := cell_keep hb2 c1
          have hfz : w2.frozen? ⟨g, k * 9 + 7, none⟩ = false := by
            have hr := hs2.own.row
            rw [hlv] at hr
            exact Row.frozen hr _
          have hsn : sn = out.length := by
            rcases hs2.row.2 with ⟨e, hn⟩ | ⟨g2, c2, cur, e, _⟩
            · cases e; omega
            · cases e; rfl
          subst hsn
          have hol : out.length ≤ 100000 := by have := hs2.few; omega
          have hfs := fr_set w2 g (k * 9 + 7) (.bool true)
          have hrow2 : (w2.setCell ⟨g, k * 9 + 7, none⟩ (.bool true)).ownsRow w.heap.size 3 1 (.slice so out.length sc) out.length (out.map (Value.int .i64)) := own_of_block hs2.row (fun c hc => hfs.block c (World.ownsRow.lt hs2.row c hc).2 (fun e => by have := (World.ownsRow.lt hs2.row c hc).1; omega))
          have hrowA := World.ownsRow.alloc hrow2 (.cells #[.int .i64 Lc[k].tx] 3)
          have hnewA := heap_alloc_new (w2.setCell ⟨g, k * 9 + 7, none⟩ (.bool true)) (.cells #[.int .i64 Lc[k].tx] 3)
          have hszE : (w2.setCell ⟨g, k * 9 + 7, none⟩ (.bool true)).heap.size = w2.heap.size := by simp [World.setCell]
          rw [hszE] at hnewA
          have hszA : w.heap.size ≤ ((w2.setCell ⟨g, k * 9 + 7, none⟩ (.bool true)).alloc (.cells #[.int .i64 Lc[k].tx] 3)).heap.size := by
            have := hs2.fr.size
            simp [World.setCell]
            omega
          have HST : Hid (∀ (w3 : World) (g' cp' : Nat), w3.ownsRow w.heap.size 3 1 (.slice (some ⟨g', 0, none⟩) (out.length + 1) cp') (out.length + 1) (out.map (Value.int .i64) ++ [.int .i64 Lc[k].tx]) → ((w2.setCell ⟨g, k * 9 + 7, none⟩ (.bool true)).alloc (.cells #[.int .i64 Lc[k].tx] 3)).grownBy w3 (Value.slice so out.length sc).ownBlock → WkSt base w t most lv L w3 (.slice (some ⟨g', 0, none⟩) (out.length + 1) cp') (out ++ [Lc[k].tx]) (grant Lc k)) := fun w3 g' cp' g1 g2 => by
            rw [hlv] at hs2 ⊢
            exact hs2.step hgl ht0 hfm htx g1 g2
          have hown3 : QOwn base (w2.setCell ⟨g, k * 9 + 7, none⟩ (.bool true)) t most (.slice (some ⟨g, 0, none⟩) L.length cap) (grant Lc k) := by
            have := hs2.own
            rw [hlv] at this
            exact this.gr hkc
          have hgk : (grant Lc k)[k]'(by rw [grant_len]; exact hkc) = gset Lc[k] := by
            have := grant_at (L := Lc) (p := k) (j := k)
            rw [if_pos rfl, List.getElem?_eq_getElem hkc, List.getElem?_eq_getElem (by rw [grant_len]; exact hkc)] at this
            simpa using this
          have p0 := (OwnQ.rq hown3.row (k := k) (by rw [grant_len]; exact hkc)).c0
          rw [hgk] at p0
          have p0' : (w2.setCell ⟨g, k * 9 + 7, none⟩ (.bool true)).cell? ⟨g, k * 9, none⟩ = some (.int .i64 Lc[k].tx) := p0
          have pt : (w2.setCell ⟨g, k * 9 + 7, none⟩ (.bool true)).cell? ⟨t, 1, none⟩ = some (.slice (some ⟨g, 0, none⟩) L.length cap) := by
            rw [cell_of_row _ t 1 _ _ _ hown3.tb]; rfl
          clear HS hb2 q0 q7 c1 hs2 hfm htx hfs hrow2 hwc hown3 hgk p0
          generalize Lc[k].tx = tx at *
          go_wp2_with (at_builtin; refine wp_appI11 _ rfl _ _ rfl w.heap.size _ out.length (out.map (Value.int .i64)) rfl hrowA w2.heap.size (.int .i64 tx) rfl hnewA rfl (by omega) hszA ?_)
          intro g' cp' w3 g1 g2
          have HS3 : Hid (WkSt base w t most lv L w3 (.slice (some ⟨g', 0, none⟩) (out.length + 1) cp') (out ++ [tx]) (grant Lc k)) := HST.out w3 g' cp' g1 g2
          clear g1 g2 HST hrowA hnewA hszA p0' pt q0' q7' c1' hfz
          go_wp2_with fail
          go_roundg (wc (grant Lc k) * (L.length + 1) + (L.length - 0))
          case measure => omega
          case rel => exact ⟨0, _, _, _, _, _, rfl, by first | rfl | go_num, Nat.zero_le _, Nat.le_refl _, fun j hj => by omega, HS3⟩
    · have tk : decide ((k : Int) < (L.length : Int)) = false := decide_eq_false (by omega)
      have hf : fm Lc = none := fm_no (fun j hj => HN.out j (by omega))
      have HF : Hid (wake L = (Lc, out)) := by
        have := HS.out.res
        rw [wake_none hf] at this
        show _ = _
        rw [this]; simp
      clear hT
      go_wp2_with fail
      go_ret
      exact ⟨so, sn, sc, rfl, by rw [HF.out]; exact HS.out.row, by rw [HF.out]; exact HS.out.own, HS.out.fr⟩
end Go.Proofs.YtmldpbgdjlblmaaDoor
