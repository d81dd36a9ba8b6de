/- The walk of the law LocksApart; lists of texts and of numbers as they are handed in, opened. -/
import Derived.Test.YtmldpbgdjlblmaaDoorL11PL
import Derived.Test.YtmldpbgdjlblmaaDoorL11EG
import Derived.Lib.QuietBelow
namespace Go.Proofs.YtmldpbgdjlblmaaDoor
open Go.RowKit Go.ChangeShapes Go.WideShapes Go.ChangeAt Go.Joins Go.Maps Go.Shelf Go.Deep Go.Sort
set_option linter.unusedVariables false
set_option linter.unusedSimpArgs false

/-- A row of one-cell things as it lies. -/
def RowC {α : Type} (enc : α → Value) (w : World) (v : Value) (ss : List α) : Prop := ∃ ao cap, v = .slice ao ss.length cap ∧ ss.length ≤ cap ∧ (ss = [] ∨ ∃ g o, ao = some ⟨g, o, none⟩ ∧ ∀ k (h : k < ss.length), w.cell? ⟨g, o + k, none⟩ = some (enc ss[k]))
theorem cellsStr11 : Tryd.prog.cellsOf 9 = 1 := by kernel_rfl
theorem cellsInt11 : Tryd.prog.cellsOf 3 = 1 := by kernel_rfl
theorem addr_add0 (a : Addr) (i : Nat) : (a.add i).add 0 = a.add i := by simp [Addr.add]
theorem rowC_of {α : Type} [Inhabited α] (enc : α → Value) {W : World} {a : Addr} {len m : Nat} {v : Value} (hc : v = .slice (some a) len m) (hlc : len ≤ m) (hall : ∀ i, i < len → ∃ c : α, W.cell? (a.add i) = some (enc c)) : ∃ ss : List α, RowC enc W v ss := by
  obtain ⟨X, hX⟩ := choose_lt hall
  refine ⟨(List.range len).map X, some a, m, by simpa using hc, by simpa using hlc, ?_⟩
  cases len with
  | zero => exact Or.inl rfl
  | succ len =>
    have hsp : a.spot = none := by
      have := World.cell?_spot (hX 0 (by omega))
      simpa [Addr.add] using this
    obtain ⟨g, o, sp⟩ := a
    simp only at hsp
    subst hsp
    refine Or.inr ⟨g, o, rfl, fun k hk => ?_⟩
    have hk' : k < len + 1 := by simpa using hk
    have := hX k hk'
    rw [Addr.add_mid] at this
    rw [this]
    simp
set_option maxRecDepth 100000 in
theorem open_strs11 {H : Type} {enc : TypeId × Value → H} {W : World} {base : Nat} {v : Value} {d : DataW H} {p : List MemPlace}
    (hv : Value.okWide Tryd.prog W .any base 57 v) (h : DataW.Trod enc Tryd.prog W 0 (fun _ => true) true 57 v d p) : ∃ ss : List ByteArray, RowC Value.string W v ss := by
  obtain ⟨a0, len0, cap0, rfl⟩ := okWide_slice Tryd.underlying57 hv
  obtain ⟨fuel, hf⟩ := h
  have hf' : DataW.trod enc Tryd.prog W 0 (fun _ => true) true fuel 57 [.slice a0 len0 cap0] = some (d, p) := hf
  rcases open_slice Tryd.underlying57 hf' with ⟨hc, _⟩ | ⟨a, len, cap, m, n, D, Pl, hc, _, hlc, hcm, hm, hx, hel⟩
  · refine ⟨[], none, 0, ?_, by simp, Or.inl rfl⟩
    simpa using hc
  · rw [cellsStr11] at hel
    simp only [if_true] at hm
    subst hm
    refine rowC_of Value.string (by simpa using hc) hlc (fun i hi => ?_)
    obtain ⟨cs', h1, h2⟩ := hel i (by omega)
    obtain ⟨z, rfl, _⟩ := DataW.trod_string Tryd.underlying9 h2
    unfold World.cells? at h1
    rw [if_pos (Nat.zero_le _)] at h1
    obtain ⟨b, hb, hc⟩ := Lib.mapM_at h1 0 0 (by simp)
    simp only [List.getElem?_cons_zero, Option.some.injEq] at hb
    subst hb
    rw [Nat.mul_one, addr_add0] at hc
    exact ⟨z, hc⟩
set_option maxRecDepth 100000 in
theorem open_ints11 {H : Type} {enc : TypeId × Value → H} {W : World} {base : Nat} {v : Value} {d : DataW H} {p : List MemPlace}
    (hv : Value.okWide Tryd.prog W .any base 40 v) (h : DataW.Trod enc Tryd.prog W 0 (fun _ => true) true 40 v d p) : ∃ ss : List Int, RowC (Value.int .i64) W v ss := by
  obtain ⟨a0, len0, cap0, rfl⟩ := okWide_slice Tryd.underlying40 hv
  obtain ⟨fuel, hf⟩ := h
  have hf' : DataW.trod enc Tryd.prog W 0 (fun _ => true) true fuel 40 [.slice a0 len0 cap0] = some (d, p) := hf
  rcases open_slice Tryd.underlying40 hf' with ⟨hc, _⟩ | ⟨a, len, cap, m, n, D, Pl, hc, _, hlc, hcm, hm, hx, hel⟩
  · refine ⟨[], none, 0, ?_, by simp, Or.inl rfl⟩
    simpa using hc
  · rw [cellsInt11] at hel
    simp only [if_true] at hm
    subst hm
    refine rowC_of (Value.int .i64) (by simpa using hc) hlc (fun i hi => ?_)
    obtain ⟨cs', h1, h2⟩ := hel i (by omega)
    obtain ⟨z, rfl, _⟩ := DataW.trod_int Tryd.underlying3 h2
    unfold World.cells? at h1
    rw [if_pos (Nat.zero_le _)] at h1
    obtain ⟨b, hb, hc⟩ := Lib.mapM_at h1 0 0 (by simp)
    simp only [List.getElem?_cons_zero, Option.some.injEq] at hb
    subst hb
    rw [Nat.mul_one, addr_add0] at hc
    exact ⟨z, hc⟩
/-- A key's own object. -/
abbrev kO (s : ByteArray) : Ob := ⟨2, ⟨#[116]⟩, s, s, false⟩
theorem kO_pl (s : ByteArray) : pl (kO s) = true := by
  have h1 : em (⟨#[116]⟩ : ByteArray) = false := by kernel_rfl
  have h2 : lb s s = true := by simp [lb]
  simp [pl, kO, h1, h2]
def aloneK (keys : List ByteArray) (s : ByteArray) (k : Nat) : Bool := (keys.take k).all fun z => !mt (kO s) (kO z)
theorem aloneK_succ {keys : List ByteArray} {s : ByteArray} {k : Nat} (h : k < keys.length) : aloneK keys s (k + 1) = (aloneK keys s k && !mt (kO s) (kO keys[k])) := by
  unfold aloneK
  rw [List.take_succ_eq_append_getElem h, List.all_append]
  simp
/-- What stands in the table: granted, of keys that came. -/
structure ApI (keys : List ByteArray) (i : Nat) (L : List Rq) : Prop where
  le : L.length ≤ i
  all : ∀ r ∈ L, r.gr = true ∧ r.tx ≤ (i : Int) ∧ ∃ z ∈ keys.take i, r.ob = kO z
theorem ApI.nil (keys : List ByteArray) : ApI keys 0 [] := ⟨by simp, fun r hr => by cases hr⟩
theorem take_sub {α : Type} {l : List α} {i : Nat} {z : α} (h : z ∈ l.take i) : z ∈ l.take (i + 1) := by
  rw [List.mem_take_iff_getElem] at h ⊢
  obtain ⟨k, hk, e⟩ := h
  exact ⟨k, by omega, e⟩
theorem ApI.skip {keys : List ByteArray} {i : Nat} {L : List Rq} (h : ApI keys i L) : ApI keys (i + 1) L :=
  ⟨by have := h.le; omega, fun r hr => by
    obtain ⟨h1, h2, z, hz, e⟩ := h.all r hr
    exact ⟨h1, by omega, z, take_sub hz, e⟩⟩
theorem ApI.ask {keys : List ByteArray} {i : Nat} {L : List Rq} (h : ApI keys i L) (hi : i < keys.length) (hl : i < 60) (ha : aloneK keys keys[i] i = true) {md : Int} (hm : 1 ≤ md ∧ md ≤ 6) :
    askF 500 L ((i : Int) + 1) (kO keys[i]) md false = ((true, 0), L ++ [⟨(i : Int) + 1, kO keys[i], md, true, false⟩]) ∧ ApI keys (i + 1) (L ++ [⟨(i : Int) + 1, kO keys[i], md, true, false⟩]) := by
  have hle := h.le
  refine ⟨ask_apart (fun r hr => ?_) (by omega) (kO_pl _) hm (by omega), ⟨by simp; omega, fun r hr => ?_⟩⟩
  · obtain ⟨h1, h2, z, hz, e⟩ := h.all r hr
    refine ⟨h1, by omega, ?_⟩
    unfold aloneK at ha
    rw [List.all_eq_true] at ha
    rw [e]
    simpa using ha z hz
  · rcases List.mem_append.1 hr with hr | hr
    · obtain ⟨h1, h2, z, hz, e⟩ := h.all r hr
      exact ⟨h1, by omega, z, take_sub hz, e⟩
    · rw [List.mem_singleton.1 hr]
      refine ⟨rfl, by simp, keys[i], ?_, rfl⟩
      rw [List.mem_take_iff_getElem]
      exact ⟨i, by omega, rfl⟩
set_option maxRecDepth 100000 in
set_option maxHeartbeats 4000000 in
theorem apart_law (v : Value) (keys : List ByteArray) (v2 : Value) (ms : List Int) (w : World) (hx : RowC Value.string w v keys) (hy : RowC (Value.int .i64) w v2 ms) (hL : LibW w) :
    Calls Tryd.prog 7 #[v, v2] w fun e w' => e = .returned (.bool true) ∧ Below w.heap.size w w' := by
  have HP : Hid (PT w.heap.size (w.alloc (.cells #[.int .i64 500, .slice none 0 0] 62)) w.heap.size 500 [] ∧ Below w.heap.size w (w.alloc (.cells #[.int .i64 500, .slice none 0 0] 62)) ∧ LibW w) := ⟨PT.new hL.toB (by omega) (by omega), (Below.refl _ _).alloc (Nat.le_refl _) _, hL⟩
  obtain ⟨ao, cap, rfl, hcap, hrow⟩ := hx
  obtain ⟨ao2, cap2, rfl, hcap2, hrow2⟩ := hy
  have HK : Hid (∀ W, Below w.heap.size w W → ∀ k (h : k < keys.length), ∃ g o, ao = some ⟨g, o, none⟩ ∧ W.cell? ⟨g, o + k, none⟩ = some (.string keys[k])) := fun W hb k h => by
    rcases hrow with h0 | ⟨g, o, e, hX⟩
    · rw [h0] at h; simp at h
    · exact ⟨g, o, e, cell_keep hb (hX k h)⟩
  have HM : Hid (∀ W, Below w.heap.size w W → ∀ k (h : k < ms.length), ∃ g o, ao2 = some ⟨g, o, none⟩ ∧ W.cell? ⟨g, o + k, none⟩ = some (.int .i64 ms[k])) := fun W hb k h => by
    rcases hrow2 with h0 | ⟨g, o, e, hX⟩
    · rw [h0] at h; simp at h
    · exact ⟨g, o, e, cell_keep hb (hX k h)⟩
  clear hL hrow hrow2
  go_enter Tryd.func7, Tryd.ntmps7
  go_wp2_with fail
  refine (pnew_ok 500 (by omega) (by omega) _).mono ?_
  rintro e w1 ⟨rfl, hw1⟩
  rw [← hw1] at HP
  clear hw1
  go_wp2_with fail
  refine (alive_any _ (HP.out.2.2.keep HP.out.2.1)).mono ?_
  rintro e w2 ⟨rfl, hb2⟩
  have H2 : Hid (∃ L, PT w.heap.size w2 w.heap.size 500 L ∧ ApI keys 0 L ∧ Below w.heap.size w w2) := ⟨[], HP.out.1.keep hb2, ApI.nil keys, keepA HP.out.2.1 hb2⟩
  clear HP hb2
  go_wp2_with fail
  go_loopw [7] (fun x wr => ∃ i : Nat, x = .int .i64 i ∧ i ≤ keys.length ∧ i ≤ 60 ∧ Hid (∃ L, PT w.heap.size wr w.heap.size 500 L ∧ ApI keys i L ∧ Below w.heap.size w wr)) (fun x _ => keys.length - (intOf x).toNat)
  case atStart => exact ⟨0, rfl, by omega, by omega, H2⟩
  case round =>
    rename World => wr
    obtain ⟨i, rfl, hi, hi60, HS⟩ := hrel
    clear H2
    obtain ⟨L, hS⟩ := HS.out
    have HL := Hid.mk' hS
    clear HS hS
    by_cases hil : i < keys.length
    · have ti : (i : Int) < (keys.length : Int) := by omega
      by_cases h60 : i < 60
      · have t60 : (i : Int) < 60 := by omega
        have HB := Hid.mk' HL.out.2.2
        have hmd : ∃ (cb : Bool) (md : Int), (1 ≤ md ∧ md ≤ 6) ∧ Hid ((cb = true ∧ ∃ h : i < ms.length, ms[i] = md) ∨ (cb = false ∧ md = 6 ∧ ((¬ i < ms.length) ∨ ∃ h : i < ms.length, ¬ (1 ≤ ms[i] ∧ ms[i] ≤ 6)))) := by
          by_cases h1 : i < ms.length
          · by_cases h2 : 1 ≤ ms[i] ∧ ms[i] ≤ 6
            · exact ⟨true, ms[i], h2, Or.inl ⟨rfl, h1, rfl⟩⟩
            · exact ⟨false, 6, by omega, Or.inr ⟨rfl, rfl, Or.inr ⟨h1, h2⟩⟩⟩
          · exact ⟨false, 6, by omega, Or.inr ⟨rfl, rfl, Or.inl h1⟩⟩
        obtain ⟨cb, md, hmd1, HMD⟩ := hmd
        go_upto_region 8 with fail
        go_cut [56] (fun c wx => c = .bool cb ∧ wr = wx)
        case first =>
          rcases HMD.out with ⟨rfl, h1, h2⟩ | ⟨rfl, h2, h1 | ⟨h1, h3⟩⟩
          · have t1 : (i : Int) < (ms.length : Int) := by omega
            obtain ⟨g2, o2, rfl, cm⟩ := HM.out wr HB.out i h1
            rw [h2] at cm
            have t2 : (1 : Int) ≤ md := hmd1.1
            have t3 : md ≤ 6 := hmd1.2
            clear HMD HL HK
            go_wp2_with fail
            go_meet
            case rel => exact ⟨rfl, rfl⟩
          · have t1 : ¬ (i : Int) < (ms.length : Int) := by omega
            clear HMD HL HK
            go_wp2_with fail
            go_meet
            case rel => exact ⟨rfl, rfl⟩
          · have t1 : (i : Int) < (ms.length : Int) := by omega
            obtain ⟨g2, o2, rfl, cm⟩ := HM.out wr HB.out i h1
            clear HMD HL HK h2
            generalize ms[i] = mm at *
            by_cases h4 : 1 ≤ mm
            · have h5 : ¬ mm ≤ 6 := fun h => h3 ⟨h4, h⟩
              clear h3
              go_wp2_with fail
              go_meet
              case rel => exact ⟨rfl, rfl⟩
            · clear h3
              go_wp2_with fail
              go_meet
              case rel => exact ⟨rfl, rfl⟩
        case rest =>
          obtain ⟨rfl, rfl⟩ := hcut
          go_upto_if 56 with fail
          go_cut [8] (fun v8 wx => v8 = .int .i64 md ∧ wr = wx)
          case first =>
            rcases HMD.out with ⟨rfl, h1, h2⟩ | ⟨rfl, h2, _⟩
            · have t1 : (i : Int) < (ms.length : Int) := by omega
              obtain ⟨g2, o2, rfl, cm⟩ := HM.out wr HB.out i h1
              rw [h2] at cm
              clear HMD HL HK
              go_wp2_with fail
              go_meet
              case rel => exact ⟨rfl, rfl⟩
            · subst h2
              clear HMD HL HK
              go_wp2_with fail
              go_meet
              case rel => exact ⟨rfl, rfl⟩
          case rest =>
            obtain ⟨rfl, rfl⟩ := hcut
            clear HMD HM
            go_wp2_with fail
            go_cut [9] (fun v9 wx => ∃ b9, v9 = .pointer (some ⟨b9, 0, none⟩) ∧ BoxO wx b9 (kO keys[i]) ∧ Hid (Below wr.heap.size wr wx))
            case first =>
              obtain ⟨g1, o1, rfl, ck⟩ := HK.out wr HB.out i hil
              clear HL HK
              generalize keys[i] = s at *
              have ckA : (wr.alloc (.cells #[.int .i64 0, .string ⟨#[]⟩, .string ⟨#[]⟩, .string ⟨#[]⟩, .bool false] 33)).cell? ⟨g1, o1 + i, none⟩ = some (.string s) := cell_keep ((Below.refl _ _).alloc (Nat.le_refl _) _) ck
              go_region
              all_goals
                go_wp2
                go_meet
                case rel => exact ⟨_, rfl, ⟨by go_simp, by go_simp, by go_simp, by go_simp, by go_simp⟩, by show Below wr.heap.size wr _; exact (by repeat (first | exact Below.refl _ _ | assumption | refine Below.alloc ?_ (by first | (simp; done) | (simp; omega)) _ | refine Below.setCell ?_ (by first | (simp; done) | (simp; omega)) _ | refine Below.drew ?_ | refine below_drewN ?_ _))⟩
            case rest =>
              obtain ⟨b9, rfl, hbx, HB9⟩ := hcut
              have HBX := Hid.mk' hbx
              have HBC := Hid.mk' (keepA HB.out HB9.out)
              have HLc := Hid.mk' (And.intro (HL.out.1.keep HB9.out) HL.out.2.1)
              clear hbx HB HB9 HL
              have HB0 : Hid (Below wc.heap.size wc wc) := Below.refl _ _
              go_wp2_with fail
              go_loopw [10, 11] (fun av x wk => ∃ k : Nat, av = .bool (aloneK keys keys[i] k) ∧ x = .int .i64 k ∧ k ≤ i ∧ Hid (Below wc.heap.size wc wk)) (fun _ x _ => i - (intOf x).toNat)
              case atStart => exact ⟨0, rfl, rfl, by omega, HB0⟩
              case round =>
                rename World => wk
                obtain ⟨k, rfl, rfl, hk, HBk⟩ := hrel
                clear HB0
                by_cases hki : k < i
                · have tki : (k : Int) < (i : Int) := by omega
                  have hkl : k < keys.length := by omega
                  have tkl : (k : Int) < (keys.length : Int) := by omega
                  obtain ⟨g1, o1, rfl, ck0⟩ := HK.out wk (keepA HBC.out HBk.out) k hkl
                  obtain ⟨x0, x1, x2, x3, x4⟩ := HBX.out.keep HBk.out
                  have HSC := Hid.mk' (aloneK_succ (s := keys[i]) hkl)
                  have hme := fun W' => rmeet_any (kO keys[i]) (kO keys[k]) W'
                  have ck := fun (d : Nat) (os : Array Obj) => cell_regrown ck0 d os
                  have y0 := fun (d : Nat) (os : Array Obj) => cell_regrown x0 d os
                  have y1 := fun (d : Nat) (os : Array Obj) => cell_regrown x1 d os
                  have y2 := fun (d : Nat) (os : Array Obj) => cell_regrown x2 d os
                  have y3 := fun (d : Nat) (os : Array Obj) => cell_regrown x3 d os
                  have y4 := fun (d : Nat) (os : Array Obj) => cell_regrown x4 d os
                  generalize aloneK keys keys[i] k = al at *
                  generalize mt (kO keys[i]) (kO keys[k]) = mb at *
                  generalize hsk : keys[k] = sk at *
                  generalize hsi : keys[i] = si at *
                  simp only [kO, Ob.v] at hme y0 y1 y2 y3 y4
                  clear x0 x1 x2 x3 x4 ck0 hsk
                  go_wp2_with fail
                  refine wp_region_quiet_below (by kernel_rfl) (by kernel_rfl) ?_
                  repeat (go_big_quiet_step (with_reducible exact Calls.regrown_of (hme _)))
                  refine wpQuiet_nil ?_
                  intro _ hw'
                  obtain ⟨⟨dq, osq⟩, hw''⟩ := hw'
                  subst hw''
                  have HN := Hid.mk' (keepA HBk.out (below_regrown wk dq osq))
                  clear hme ck y0 y1 y2 y3 y4
                  generalize grow (redrawn wk dq) osq = wz at *
                  cases al <;> cases mb <;>
                  · go_wp2_with fail
                    go_roundw
                    case rel => exact ⟨k + 1, by rw [HSC.out]; rfl, by go_num, by omega, HN⟩
                    case measure => simp [intOf]; omega
                · have tki : ¬ (k : Int) < (i : Int) := by omega
                  obtain rfl : k = i := by omega
                  cases ha : aloneK keys keys[k] k with
                  | false =>
                    have HN : Hid (∃ L, PT w.heap.size wk w.heap.size 500 L ∧ ApI keys (k + 1) L ∧ Below w.heap.size w wk) := ⟨L, HLc.out.1.keep HBk.out, HLc.out.2.skip, keepA HBC.out HBk.out⟩
                    go_wp2_with fail
                    go_roundw
                    case rel => exact ⟨k + 1, by go_num, by omega, by omega, HN⟩
                    case measure => simp [intOf]; omega
                  | true =>
                    obtain ⟨x0, x1, x2, x3, x4⟩ := HBX.out.keep HBk.out
                    obtain ⟨hq1, hq2⟩ := HLc.out.2.ask hil h60 ha hmd1
                    have hask := (HLc.out.1.keep HBk.out).ask ((k : Int) + 1) (kO keys[k]) md false
                    rw [hq1] at hask
                    have HQ2 := Hid.mk' hq2
                    have HBK := Hid.mk' (keepA HBC.out HBk.out)
                    clear hq1 hq2 HLc HBC HBk HBX ha
                    generalize L ++ [⟨(k : Int) + 1, kO keys[k], md, true, false⟩] = L2 at *
                    generalize keys[k] = sk at *
                    simp only [kO, Ob.v] at hask x0 x1 x2 x3 x4
                    go_wp2_with fail
                    refine hask.mono ?_
                    rintro e w9 ⟨rfl, hp9, hb9⟩
                    have HN : Hid (∃ L, PT w.heap.size w9 w.heap.size 500 L ∧ ApI keys (k + 1) L ∧ Below w.heap.size w w9) := ⟨L2, hp9, HQ2.out, HBK.out.trans hb9⟩
                    clear hask hp9 hb9 x0 x1 x2 x3 x4
                    go_wp2_with fail
                    go_roundw
                    case rel => exact ⟨k + 1, by go_num, by omega, by omega, HN⟩
                    case measure => simp [intOf]; omega
      · have t60 : ¬ (i : Int) < 60 := by omega
        have hed := HL.out.1.edges
        rw [edges_none (fun r hr => (HL.out.2.1.all r hr).1)] at hed
        have HB := Hid.mk' HL.out.2.2
        clear HL HK HM
        go_wp2_with fail
        refine hed.mono ?_
        rintro e w9 ⟨v9, rfl, ho9, hb9⟩
        obtain ⟨a9, c9, rfl, _⟩ := PList.of_own ho9
        have HE := Hid.mk' (keepA HB.out hb9)
        clear hed ho9 hb9
        simp only [List.length_nil]
        go_wp2_with fail
        go_ret
        exact ⟨rfl, HE.out⟩
    · have ti : ¬ (i : Int) < (keys.length : Int) := by omega
      have hed := HL.out.1.edges
      rw [edges_none (fun r hr => (HL.out.2.1.all r hr).1)] at hed
      have HB := Hid.mk' HL.out.2.2
      clear HL HK HM
      go_wp2_with fail
      refine hed.mono ?_
      rintro e w9 ⟨v9, rfl, ho9, hb9⟩
      obtain ⟨a9, c9, rfl, _⟩ := PList.of_own ho9
      have HE := Hid.mk' (keepA HB.out hb9)
      clear hed ho9 hb9
      simp only [List.length_nil]
      go_wp2_with fail
      go_ret
      exact ⟨rfl, HE.out⟩
end Go.Proofs.YtmldpbgdjlblmaaDoor
