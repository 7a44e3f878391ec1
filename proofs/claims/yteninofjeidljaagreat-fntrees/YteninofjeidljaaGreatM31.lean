/- The draws of tokens: l7DrawAttrs, l7Draw. Contract of l8DrawAttrs of the specification (the draw of attrs). What the draw of a tree keeps to: who is open stands in the chain (plain mathematics). Contract of l8Draw of the specification (the draw of a tree). -/
import Derived.Test.YteninofjeidljaaGreatM30
import Derived.Test.YteninofjeidljaaGreatM13
import Derived.Test.YteninofjeidljaaGreatM22
import Derived.Deep.RegionHeld
import Derived.Deep.CutRange
import Derived.Deep.RegionHeld3
namespace Go.Proofs.YteninofjeidljaaGreat

open Go.RowKit

set_option linter.unusedVariables false

set_option linter.unusedSimpArgs false

theorem two_oneW (x y : ByteArray) : ∀ u ∈ [Value.string x, .string y], u.oneCell' = true := by
  intro u hu
  simp at hu
  rcases hu with rfl | rfl <;> rfl

set_option maxRecDepth 8000 in
set_option maxHeartbeats 8000000 in
theorem cDrawAttrs7 (w0 : World) (a : Option Addr) (len cap b : Nat) (w : World) (hlen : len ≤ 4096) (hcr : CodeRow w0 a len) (hC : Cur w0 a len cap b w) :
    Calls Tryz.prog 98 #[.pointer (some ⟨b, 0, none⟩)] w fun e w' => ∃ a' c' l, e = .returned (.slice a' (l : List At).length c') ∧ l.length ≤ 3 ∧ DSt w0 a len cap b w w' (.slice a' l.length c') l := by
  have HR := hid hcr
  have HC := hid hC
  clear hcr hC
  have hbl : b < w.heap.size := by obtain ⟨i, h, _, _, hh⟩ := HC.out.2.2; exact lt_of_heap hh
  have HDZ := hid (show DSt w0 a len cap b w (w.alloc (.cells #[] 114)) (.slice (some ⟨w.heap.size, 0, none⟩) 0 0) [] from ⟨World.ownsRow_made w #[] 0 (Nat.le_refl _) (Nat.zero_le _) rfl, fun x hx => absurd hx List.not_mem_nil, HC.out.alloc _, World.grownBy_alloc w _ _, hbl, HC.out.2.1.size⟩)
  clear hbl
  go_enter Tryz.func98, Tryz.ntmps98
  go_wp2_with fail
  refine (cBelow 4 w0 a len cap b _ hlen HR.out HDZ.out.cur (by omega) (by omega)).mono ?_
  rintro e w2 ⟨n, rfl, hn, hC2, hG2⟩
  have HD2 := hid (HDZ.out.draw hC2 hG2)
  clear hC2 hG2 HDZ
  go_wp2_with fail
  go_loopw [3, 4] (fun v x wr => ∃ (k : Nat) (l : List At), x = .int .i64 (k : Int) ∧ k ≤ 3 ∧ l.length + k ≤ 3 ∧ Hid (DSt w0 a len cap b w wr v l)) (fun _ x _ => (intOf x).toNat)
  case atStart => exact ⟨n, [], rfl, by omega, by simp; omega, HD2.out⟩
  case round =>
    clear HD2
    obtain ⟨k, l, rfl, hk3, hlk, HD⟩ := hrel
    obtain ⟨a5, c5, hv5, hoa⟩ := HD.out.row
    subst hv5
    have HOA0 := hid hoa
    clear hoa
    obtain ⟨L, hL⟩ : ∃ L, l.length = L := ⟨_, rfl⟩
    have HL := hid hL
    rw [hL] at hlk HD ⊢
    clear hL
    by_cases hk : 0 < k
    · have hkb : decide ((0 : Int) < (k : Int)) = true := by simp; omega
      obtain ⟨k1, rfl⟩ : ∃ k1, k = k1 + 1 := ⟨k - 1, by omega⟩
      go_wp2_with fail
      refine (cName w0 a len cap b _ hlen HR.out HD.out.cur).mono ?_
      rintro e w3 ⟨tA, rfl, htA, hC3, hG3⟩
      have HD3 := hid (HD.out.draw hC3 hG3)
      have HT := hid htA
      clear hC3 hG3 htA HD
      go_wp2_with fail
      refine (cTextV ⟨#[97, 98, 60, 38, 34, 62, 32, 49]⟩ 5 w0 a len cap b _ (by omega) (by omega) (by decide) (by decide) (by decide) hlen HR.out HD3.out.cur).mono ?_
      rintro e w4 ⟨y2, rfl, hy2, hC4, hG4⟩
      have HD4 := hid (HD3.out.draw hC4 hG4)
      clear hC4 hG4 HD3
      have HDB := hid (HD4.out.alloc (.cells #[.string tA, .string y2] 114))
      have HM := hid (heap_alloc_new w4 (.cells #[.string tA, .string y2] 114))
      obtain ⟨⟨e0, e1⟩, -, -⟩ := box2e HM.out
      have HRW := hid (HDB.out.row)
      obtain ⟨a6, c6, hv6, hoa6⟩ := HRW.out
      obtain ⟨rfl, rfl⟩ : a5 = a6 ∧ c5 = c6 := by injection hv6 with h1 _ h3; exact ⟨h1, h3⟩
      have CV := hid (cValueInS a5 c5 l tA _ hoa6.atRow (atv_big HDB.out.sz (by decide)) (by rw [HL.out]; omega) (by have := HT.out; omega))
      obtain ⟨VF, hVF⟩ : ∃ VF, valF l tA = VF := ⟨_, rfl⟩
      rw [hVF, HL.out] at CV
      clear hVF hoa6 hv6 HRW HOA0 HM
      cases VF with
      | some z =>
        go_wp2_with fail
        refine CV.out.mono ?_
        rintro e w5 ⟨rfl, hw5⟩
        rw [hw5]
        clear hw5
        go_wp2_with fail
        go_roundw
        case rel => exact ⟨k1, l, by go_num, by omega, by rw [HL.out]; omega, HDB.out⟩
        case measure => first | (simp [intOf]; omega) | simp [intOf]
      | none =>
        obtain ⟨i0, hi, hz0, hz1, hz2⟩ := info_parts infoAtW
        have HOA := hid (HDB.out.own.alloc (.cells #[.string tA, .string y2] 114))
        have HDA := hid (HDB.out.alloc (.cells #[.string tA, .string y2] 114))
        have HNE := hid (two_cells (w4.alloc (.cells #[.string tA, .string y2] 114)) (.string tA) (.string y2) 114)
        have HSZ := hid (show (w4.alloc (.cells #[.string tA, .string y2] 114)).heap.size = w4.heap.size + 1 by simp)
        rw [HSZ.out] at HNE
        have HON := hid (two_oneW tA y2)
        have hwz := HD4.out.gr.size
        rw [HL.out] at HOA
        go_wp2_with fail
        refine CV.out.mono ?_
        rintro e w5 ⟨rfl, hw5⟩
        rw [hw5]
        clear hw5
        go_wp2_with (at_builtin; refine wpList_append_own _ rfl _ _ 40 rfl w.heap.size 114 i0 _ 2 32 Tryz.underlying40 hi hz0 hz1 hz2 rfl (by decide) _ _ _ rfl HOA.out _ 1 1 [.string tA, .string y2] rfl rfl ?c1 ?c2 ?c3 ?c4 ?c5 ?_)
        case c1 => exact HNE.out
        case c2 => exact HON.out
        case c3 => unfold maxLen; omega
        case c4 => omega
        case c5 => simp; omega
        intro v6 w6 hown6 hgrow6 _
        have HD6 := hid (HDA.out.join (m := [⟨tA, y2⟩]) (fun x hx => by
          rw [List.mem_singleton] at hx
          subst hx
          exact ⟨by show tA.size ≤ 20; have := HT.out; omega, by show vz y2 ≤ 20; omega⟩) (by rw [HL.out]; exact hown6) hgrow6)
        obtain ⟨a6, c6, hv6⟩ := own_len hown6
        subst hv6
        clear hown6 hgrow6
        go_wp2_with fail
        go_roundw
        case rel => exact ⟨k1, l ++ [(⟨tA, y2⟩ : At)], by go_num, by omega, by rw [List.length_append, HL.out]; simp; omega, HD6.out⟩
        case measure => first | (simp [intOf]; omega) | simp [intOf]
    · have hkb : decide ((0 : Int) < (k : Int)) = false := by simp; omega
      go_wp2_with fail
      go_ret
      exact ⟨a5, c5, l, by rw [HL.out]; rfl, by rw [HL.out]; omega, by rw [HL.out]; exact HD.out⟩

/-- A token as a value. -/
abbrev tkW (t : Tk) (a : Option Addr) (c : Nat) : Value := .agg #[.int .i64 t.kind, .string t.name, .slice a t.attrs.length c, .string t.text]

/-- A token that was drawn. -/
def DrawnTk (w0 : World) (a : Option Addr) (len cap b : Nat) (w : World) (n : Nat) (e : Ending) (w' : World) : Prop :=
  ∃ t a' c', e = .returned (tkW t a' c') ∧ DSt w0 a len cap b w w' (.slice a' t.attrs.length c') t.attrs ∧ t.name.size ≤ 7 ∧ t.attrs.length ≤ n ∧ t.text.size ≤ 6

theorem dst_nil {w0 : World} {a : Option Addr} {len cap b : Nat} {w wr : World} (hC : Cur w0 a len cap b w) (hC2 : Cur w0 a len cap b wr) (g : w.grownBy wr (some b)) : DSt w0 a len cap b w wr (.slice none 0 0) [] :=
  ⟨World.ownsRow_nil _ _ _ _, fun x hx => absurd hx List.not_mem_nil, hC2, g, by obtain ⟨i, h, _, _, hh⟩ := hC.2.2; exact lt_of_heap hh, hC.2.1.size⟩

/-- The row that a callee drew is one of the caller's. -/
theorem DSt.from {w0 : World} {a : Option Addr} {len cap b : Nat} {w w1 wr : World} {v : Value} {l : List At} (h : DSt w0 a len cap b w1 wr v l) (g : w.grownBy w1 (some b)) (hl : b < w.heap.size) (hw : w0.heap.size ≤ w.heap.size) : DSt w0 a len cap b w wr v l :=
  ⟨own_low h.own g.size, h.sz, h.cur, gtrans g h.gr, hl, hw⟩
where
  own_low {wr : World} {B B' E s n : Nat} {v : Value} {xs : List Value} (h : wr.ownsRow B' E s v n xs) (hB : B ≤ B') : wr.ownsRow B E s v n xs := by
    refine ⟨h.1, ?_⟩
    rcases h.2 with h' | ⟨g, cap, cur, h1, h2, h3⟩
    · exact .inl h'
    · exact .inr ⟨g, cap, cur, h1, Nat.le_trans hB h2, h3⟩

set_option maxRecDepth 8000 in
set_option maxHeartbeats 8000000 in
theorem cDrawTok (w0 : World) (a : Option Addr) (len cap b : Nat) (w : World) (hlen : len ≤ 4096) (hcr : CodeRow w0 a len) (hC : Cur w0 a len cap b w) :
    Calls Tryz.prog 47 #[.pointer (some ⟨b, 0, none⟩)] w (DrawnTk w0 a len cap b w 3) := by
  have HR := hid hcr
  have HC := hid hC
  clear hcr hC
  have hbl : b < w.heap.size := by obtain ⟨i, h, _, _, hh⟩ := HC.out.2.2; exact lt_of_heap hh
  have hw0 := HC.out.2.1.size
  have HC1 := hid (HC.out.alloc (.cells #[.int .i64 0, .string ⟨#[]⟩, .slice none 0 0, .string ⟨#[]⟩] 49))
  have HG1 := hid (World.grownBy_alloc w (.cells #[.int .i64 0, .string ⟨#[]⟩, .slice none 0 0, .string ⟨#[]⟩] 49) (some b))
  have HM1 := hid (heap_alloc_new w (.cells #[.int .i64 0, .string ⟨#[]⟩, .slice none 0 0, .string ⟨#[]⟩] 49))
  obtain ⟨w1, hw1⟩ : ∃ w1, w.alloc (.cells #[.int .i64 0, .string ⟨#[]⟩, .slice none 0 0, .string ⟨#[]⟩] 49) = w1 := ⟨_, rfl⟩
  rw [hw1] at HC1 HG1 HM1
  have HW1 := hid hw1
  clear hw1
  go_enter Tryz.func47, Tryz.ntmps47
  go_wp2_with fail
  rw [HW1.out]
  refine (cBelow 3 w0 a len cap b _ hlen HR.out HC1.out (by omega) (by omega)).mono ?_
  rintro e w2 ⟨n, rfl, hn, hC2, hG2⟩
  have HC2 := hid hC2
  have HG2 := hid (gtrans HG1.out hG2)
  have HM2 := hid ((hG2.block w.heap.size (lt_of_heap HM1.out) (fun e => by have := Option.some.inj e; omega)).trans HM1.out)
  clear hC2 hG2 HC1 HG1 HM1 HW1
  rcases (show n = 0 ∨ n = 1 ∨ n = 2 from by omega) with rfl | rfl | rfl
  · go_wp2_with fail
    refine (cName w0 a len cap b _ hlen HR.out HC2.out).mono ?_
    rintro e w3 ⟨tA, rfl, htA, hC3, hG3⟩
    have HC3 := hid hC3
    have HG3 := hid (gtrans HG2.out hG3)
    have HM3 := hid ((hG3.block w.heap.size (lt_of_heap HM2.out) (fun e => by have := Option.some.inj e; omega)).trans HM2.out)
    clear hC3 hG3 HC2 HG2 HM2
    go_wp2_with fail
    refine (cDrawAttrs7 w0 a len cap b _ hlen HR.out HC3.out).mono ?_
    rintro e w4 ⟨a4, c4, l, rfl, hl3, hD4⟩
    have hM4 := (hD4.gr.block w.heap.size (lt_of_heap HM3.out) (fun e => by have := Option.some.inj e; omega)).trans HM3.out
    have hne : ¬ (Value.slice a4 l.length c4).ownBlock = some w.heap.size := fun e => by
      have := (hD4.own.lt _ e).1
      have := lt_of_heap HM3.out
      omega
    have HD4 := hid (hD4.from HG3.out hbl hw0)
    have HNE := hid hne
    obtain ⟨⟨c0, c1, c2, c3⟩, f0, f1, f2, f3⟩ := box4 hM4
    clear hD4 hM4 hne HC3 HG3 HM3
    obtain ⟨L, hL⟩ : ∃ L, l.length = L := ⟨_, rfl⟩
    have HL := hid hL
    rw [hL] at HD4 HNE ⊢
    clear hL
    have HDF := hid ((((HD4.out.set (Nat.le_refl _) HNE.out 0 (.int .i64 1)).set (Nat.le_refl _) HNE.out 1 (.string tA)).set (Nat.le_refl _) HNE.out 2 (.slice a4 L c4)).set (Nat.le_refl _) HNE.out 3 (.string ⟨#[]⟩))
    go_wp2_with fail
    refine bodyPost_ret (v := .agg #[.int .i64 1, .string tA, .slice a4 L c4, .string ⟨#[]⟩]) (by simp [results, Tryz.results47, go_sem, c0, c1, c2, c3]) rfl ?_
    exact ⟨⟨1, tA, l, ⟨#[]⟩⟩, a4, c4, by rw [← HL.out], by show DSt _ _ _ _ _ _ _ (.slice a4 l.length c4) l; rw [HL.out]; exact HDF.out, htA, hl3, Nat.zero_le _⟩
  · go_wp2_with fail
    refine (cName w0 a len cap b _ hlen HR.out HC2.out).mono ?_
    rintro e w3 ⟨tA, rfl, htA, hC3, hG3⟩
    have HD4 := hid (dst_nil HC.out hC3 (gtrans HG2.out hG3))
    have HNE := hid (show ¬ (Value.slice none 0 0).ownBlock = some w.heap.size from fun e => nomatch (show (none : Option Nat) = some _ from e))
    have hM3 := (hG3.block w.heap.size (lt_of_heap HM2.out) (fun e => by have := Option.some.inj e; omega)).trans HM2.out
    obtain ⟨⟨c0, c1, c2, c3⟩, f0, f1, f2, f3⟩ := box4 hM3
    clear hC3 hG3 HC2 HG2 HM2 hM3
    have HDF := hid ((((HD4.out.set (Nat.le_refl _) HNE.out 0 (.int .i64 2)).set (Nat.le_refl _) HNE.out 1 (.string tA)).set (Nat.le_refl _) HNE.out 2 (.slice none 0 0)).set (Nat.le_refl _) HNE.out 3 (.string ⟨#[]⟩))
    go_wp2_with fail
    refine bodyPost_ret (v := .agg #[.int .i64 2, .string tA, .slice none 0 0, .string ⟨#[]⟩]) (by simp [results, Tryz.results47, go_sem, c0, c1, c2, c3]) rfl ?_
    exact ⟨⟨2, tA, [], ⟨#[]⟩⟩, none, 0, rfl, HDF.out, htA, Nat.zero_le _, Nat.zero_le _⟩
  · go_wp2_with fail
    refine (cTextV ⟨#[97, 98, 60, 38, 62, 32, 10]⟩ 5 w0 a len cap b _ (by omega) (by omega) (by decide) (by decide) (by decide) hlen HR.out HC2.out).mono ?_
    rintro e w3 ⟨t5, rfl, ht5, hC3, hG3⟩
    have HD4 := hid (dst_nil HC.out hC3 (gtrans HG2.out hG3))
    have HNE := hid (show ¬ (Value.slice none 0 0).ownBlock = some w.heap.size from fun e => nomatch (show (none : Option Nat) = some _ from e))
    have hM3 := (hG3.block w.heap.size (lt_of_heap HM2.out) (fun e => by have := Option.some.inj e; omega)).trans HM2.out
    obtain ⟨⟨c0, c1, c2, c3⟩, f0, f1, f2, f3⟩ := box4 hM3
    have hz5 := (vz_size (s := t5) (n := 5) (by omega) (by decide)).1
    obtain ⟨S5, hS5⟩ : ∃ S, (⟨#[120]⟩ : ByteArray) ++ t5 = S := ⟨_, rfl⟩
    have hov : ¬ 9223372036854775807 < (⟨#[120]⟩ : ByteArray).size + t5.size := by rw [show (⟨#[120]⟩ : ByteArray).size = 1 from rfl]; omega
    have HZ := hid (show S5.size ≤ 6 by rw [← hS5, ByteArray.size_append, show (⟨#[120]⟩ : ByteArray).size = 1 from rfl]; omega)
    clear hC3 hG3 HC2 HG2 HM2 hM3 hz5
    have HDF := hid ((((HD4.out.set (Nat.le_refl _) HNE.out 0 (.int .i64 3)).set (Nat.le_refl _) HNE.out 1 (.string ⟨#[]⟩)).set (Nat.le_refl _) HNE.out 2 (.slice none 0 0)).set (Nat.le_refl _) HNE.out 3 (.string S5))
    go_wp2_with fail
    refine bodyPost_ret (v := .agg #[.int .i64 3, .string ⟨#[]⟩, .slice none 0 0, .string S5]) (by simp [results, Tryz.results47, go_sem, c0, c1, c2, c3]) rfl ?_
    exact ⟨⟨3, ⟨#[]⟩, [], S5⟩, none, 0, rfl, HDF.out, Nat.zero_le _, Nat.zero_le _, HZ.out⟩

end Go.Proofs.YteninofjeidljaaGreat

namespace Go.Proofs.YteninofjeidljaaGreat

open Go.RowKit

set_option linter.unusedVariables false

set_option linter.unusedSimpArgs false

theorem tab3_at (w : World) (B x : Nat) (hx : x < 3) (h : w.heap[B]? = some (.cells #[.string ⟨#[117]⟩, .string ⟨#[119]⟩, .string ⟨#[122]⟩] 9 (0, 0))) : ∃ t : ByteArray, w.cell? ⟨B, x, none⟩ = some (.string t) ∧ vz t ≤ 1 := by
  rw [Lib.cell_of_heap h]
  rcases (show x = 0 ∨ x = 1 ∨ x = 2 from by omega) with rfl | rfl | rfl
  all_goals exact ⟨_, rfl, by decide⟩

theorem four_cells (w : World) (x y z t : Value) (T : TypeId) : ∀ j u, [x, y, z, t][j]? = some u → (w.alloc (.cells #[x, y, z, t] T)).cell? ((⟨w.heap.size, 0, none⟩ : Addr).add j) = some u := by
  intro j u hj
  match j, hj with
  | 0, hj => simp at hj; subst hj; simp [Addr.add]
  | 1, hj => simp at hj; subst hj; simp [Addr.add]
  | 2, hj => simp at hj; subst hj; simp [Addr.add]
  | 3, hj => simp at hj; subst hj; simp [Addr.add]

theorem box_set1 {w1 : World} {b : Nat} {x y v : Value} {T : TypeId} (h : w1.heap[b]? = some (.cells #[x, y] T (0, 0))) : (w1.setCell ⟨b, 1, none⟩ v).heap[b]? = some (.cells #[x, v] T (0, 0)) :=
  heap_setCell_same w1 b 1 _ _ v h

set_option maxRecDepth 8000 in
set_option maxHeartbeats 8000000 in
theorem cDrawAttrs (r : Bool) (w0 : World) (a : Option Addr) (len cap b : Nat) (w : World) (hlen : len ≤ 4096) (hcr : CodeRow w0 a len) (hC : Cur w0 a len cap b w) :
    Calls Tryz.prog 136 #[.pointer (some ⟨b, 0, none⟩), .bool r] w fun e w' => ∃ a' c' l, e = .returned (.slice a' (l : List At).length c') ∧ l.length ≤ 4 ∧ DSt w0 a len cap b w w' (.slice a' l.length c') l := by
  have HR := hid hcr
  have HC := hid hC
  clear hcr hC
  have hbl : b < w.heap.size := by obtain ⟨i, h, _, _, hh⟩ := HC.out.2.2; exact lt_of_heap hh
  have HDZ := hid (show DSt w0 a len cap b w (w.alloc (.cells #[] 114)) (.slice (some ⟨w.heap.size, 0, none⟩) 0 0) [] from ⟨World.ownsRow_made w #[] 0 (Nat.le_refl _) (Nat.zero_le _) rfl, fun x hx => absurd hx List.not_mem_nil, HC.out.alloc _, World.grownBy_alloc w _ _, hbl, HC.out.2.1.size⟩)
  clear hbl
  go_enter Tryz.func136, Tryz.ntmps136
  go_upto_region 2 with fail
  go_cut [16] from 11 to 72 (fun x wv => ∃ B : Bool, x = .bool B ∧ Hid (DSt w0 a len cap b w wv (.slice (some ⟨w.heap.size, 0, none⟩) 0 0) []))
  case first =>
    cases r
    · go_wp2_with fail
      go_meet
      exact ⟨false, rfl, HDZ.out⟩
    · go_wp2_with fail
      refine (cOnce 6 w0 a len cap b _ hlen HR.out HDZ.out.cur (by omega) (by omega)).mono ?_
      rintro e w2 ⟨x, rfl, hC2, hG2⟩
      have HD2 := hid (HDZ.out.draw hC2 hG2)
      clear hC2 hG2
      cases x
      · go_wp2_with fail
        go_meet
        exact ⟨true, rfl, HD2.out⟩
      · go_wp2_with fail
        go_meet
        exact ⟨false, rfl, HD2.out⟩
  obtain ⟨BR, rfl, HDY⟩ := hcut
  clear HDZ
  go_upto_if 16 with fail
  go_cut [5] from 17 to 72 (fun x wv => ∃ l : List At, l.length ≤ 2 ∧ Hid (DSt w0 a len cap b w wv x l))
  case first =>
    cases BR
    · go_wp2_with fail
      go_meet
      exact ⟨[], by simp, HDY.out⟩
    · obtain ⟨i0, hi, hz0, hz1, hz2⟩ := info_parts infoAtW
      go_wp2_with fail
      refine (cTextV ⟨#[49, 47]⟩ 2 w0 a len cap b _ (by omega) (by omega) (by decide) (by decide) (by decide) hlen HR.out HDY.out.cur).mono ?_
      rintro e w3 ⟨t5, rfl, ht5, hC3, hG3⟩
      have HD3 := hid (HDY.out.draw hC3 hG3)
      obtain ⟨S5, hS5⟩ : ∃ S, (⟨#[117]⟩ : ByteArray) ++ t5 = S := ⟨_, rfl⟩
      have hz5 : vz S5 ≤ 1 + vz t5 := by rw [← hS5]; exact vz_app _ _
      have hov : ¬ 9223372036854775807 < (⟨#[117]⟩ : ByteArray).size + t5.size := by have := (vz_size (s := t5) (n := 5) (by omega) (by decide)).1; rw [show (⟨#[117]⟩ : ByteArray).size = 1 from rfl]; omega
      have hz6 : vz S5 ≤ 5 := by omega
      have HOA := hid (HD3.out.own.alloc (.cells #[.string ⟨#[110, 115, 58, 112]⟩, .string S5, .string ⟨#[110, 115, 58, 113]⟩, .string ⟨#[119]⟩] 114))
      have HDA := hid (HD3.out.alloc (.cells #[.string ⟨#[110, 115, 58, 112]⟩, .string S5, .string ⟨#[110, 115, 58, 113]⟩, .string ⟨#[119]⟩] 114))
      have HNE := hid (four_cells w3 (.string ⟨#[110, 115, 58, 112]⟩) (.string S5) (.string ⟨#[110, 115, 58, 113]⟩) (.string ⟨#[119]⟩) 114)
      have HON := hid (show ∀ u ∈ [Value.string ⟨#[110, 115, 58, 112]⟩, .string S5, .string ⟨#[110, 115, 58, 113]⟩, .string ⟨#[119]⟩], u.oneCell' = true by
        intro u hu
        simp at hu
        rcases hu with rfl | rfl | rfl | rfl <;> rfl)
      have hwb := HD3.out.gr.size
      clear hC3 hG3 hz5
      go_wp2_with (at_builtin; refine wpList_append_own _ rfl _ _ 40 rfl w.heap.size 114 i0 _ 2 32 Tryz.underlying40 hi hz0 hz1 hz2 rfl (by decide) _ _ _ rfl HOA.out ⟨w3.heap.size, 0, none⟩ 2 2 [.string ⟨#[110, 115, 58, 112]⟩, .string S5, .string ⟨#[110, 115, 58, 113]⟩, .string ⟨#[119]⟩] rfl rfl ?c1 ?c2 ?c3 ?c4 ?c5 ?_)
      case c1 => exact HNE.out
      case c2 => exact HON.out
      case c3 => unfold maxLen; simp
      case c4 => simp
      case c5 => simp; omega
      intro v6 w6 hown6 hgrow6 _
      have HD6 := hid (HDA.out.join (m := [⟨⟨#[110, 115, 58, 112]⟩, S5⟩, ⟨⟨#[110, 115, 58, 113]⟩, ⟨#[119]⟩⟩]) (fun x hx => by
        simp at hx
        rcases hx with rfl | rfl
        · exact ⟨by show (⟨#[110, 115, 58, 112]⟩ : ByteArray).size ≤ 20; decide, by show vz S5 ≤ 20; omega⟩
        · exact ⟨by decide, by decide⟩) hown6 hgrow6)
      clear hown6 hgrow6
      go_wp2_with fail
      go_meet
      exact ⟨[⟨⟨#[110, 115, 58, 112]⟩, S5⟩, ⟨⟨#[110, 115, 58, 113]⟩, ⟨#[119]⟩⟩], by simp, HD6.out⟩
  obtain ⟨lz, hlz, HDX⟩ := hcut
  go_wp2_with fail
  refine (cBelow 3 w0 a len cap b _ hlen HR.out HDX.out.cur (by omega) (by omega)).mono ?_
  rintro e w2 ⟨y, rfl, hy, hC2, hG2⟩
  have HD0 := hid (HDX.out.draw hC2 hG2)
  clear hC2 hG2 HDX HDY
  go_wp2_with fail
  go_loopw [5, 6] (fun v x wr => ∃ (k : Nat) (l : List At), x = .int .i64 (k : Int) ∧ k ≤ 2 ∧ l.length + k ≤ 4 ∧ Hid (DSt w0 a len cap b w wr v l)) (fun _ x _ => (intOf x).toNat)
  case atStart => exact ⟨y, lz, rfl, by omega, by omega, HD0.out⟩
  case round =>
    clear HD0
    obtain ⟨k, l, rfl, hk, hlk, HD⟩ := hrel
    by_cases h0 : k = 0
    · subst h0
      obtain ⟨a5, c5, hv5, _⟩ := HD.out.row
      subst hv5
      go_wp2_with fail
      go_ret
      exact ⟨a5, c5, l, rfl, by omega, HD.out⟩
    · have hkp : (0 : Int) < (k : Int) := by omega
      obtain ⟨v, hv⟩ : ∃ v, v = v := ⟨u5, rfl⟩
      clear hv v
      generalize u5 = v at *
      go_upto_region 7 with fail
      go_cut [7] from 27 to 72 (fun x wv => ∃ (bx : Nat) (tA tC : ByteArray), x = .pointer (some ⟨bx, 0, none⟩) ∧ Hid (wv.heap[bx]? = some (.cells #[.string tA, .string tC] 114 (0, 0)) ∧ (w.heap.size ≤ bx ∧ ¬ v.ownBlock = some bx) ∧ tA.size ≤ 7 ∧ vz tC ≤ 4 ∧ DSt w0 a len cap b w wv v l))
      case first =>
        refine wp_region_held_drew (S := fun _ => True) (by kernel_rfl) trivial (fun _ => ?_)
        replace HD := hid (show DSt w0 a len cap b w wr.drew v l from HD.out.drewN 1)
        generalize wr.drew = W at *
        refine wpAnyH_take (i := 1) (v := ?_) rfl (by kernel_rfl) (by kernel_rfl) (by kernel_rfl) (fun _ _ _ h => h) (Or.inl ⟨by rfl, ?_⟩) trivial ?_
        rotate_left
        · intro w hSw
          go_simp
          try (with_reducible rfl)
        try simp only [Act.put, List.setIfInBounds_toArray, List.set_cons_zero, List.set_cons_succ]
        refine wpAnyH_take (i := 5) (v := ?_) rfl (by kernel_rfl) (by kernel_rfl) (by kernel_rfl) (fun _ _ _ h => h) (Or.inl ⟨by rfl, ?_⟩) trivial ?_
        rotate_left
        · intro w hSw
          go_simp
          try (with_reducible rfl)
        try simp only [Act.put, List.setIfInBounds_toArray, List.set_cons_zero, List.set_cons_succ]
        refine wpAnyH_ready (rs := [0, 2, 8]) (by kernel_rfl) (by simp) (AllReadyH.cons rfl (fun K hK => ?_) (AllReadyH.cons rfl (fun K hK => ?_) (AllReadyH.cons rfl (fun K hK => ?_) AllReadyH.nil)))
        · have HTB := hid (show ¬ W.heap.size = b by have := HD.out.gr.size; have := HD.out.lt; omega)
          go_simp
          refine hK.out _ _ trivial (fun _ => ?_)
          clear hK K
          try simp only [Act.put, List.setIfInBounds_toArray, List.set_cons_zero, List.set_cons_succ]
          have HT := hid (heap_alloc_new W (.cells #[.string ⟨#[97]⟩, .string ⟨#[120]⟩, .string ⟨#[112, 58, 97]⟩, .string ⟨#[113, 58, 97]⟩, .string ⟨#[112, 58, 120]⟩, .string ⟨#[110, 115]⟩, .string ⟨#[110, 115, 58, 112]⟩, .string ⟨#[73, 100]⟩] 9))
          replace HD := hid (HD.out.alloc (.cells #[.string ⟨#[97]⟩, .string ⟨#[120]⟩, .string ⟨#[112, 58, 97]⟩, .string ⟨#[113, 58, 97]⟩, .string ⟨#[112, 58, 120]⟩, .string ⟨#[110, 115]⟩, .string ⟨#[110, 115, 58, 112]⟩, .string ⟨#[73, 100]⟩] 9))
          generalize W.heap.size = tb at *
          generalize W.alloc (.cells #[.string ⟨#[97]⟩, .string ⟨#[120]⟩, .string ⟨#[112, 58, 97]⟩, .string ⟨#[113, 58, 97]⟩, .string ⟨#[112, 58, 120]⟩, .string ⟨#[110, 115]⟩, .string ⟨#[110, 115, 58, 112]⟩, .string ⟨#[73, 100]⟩] 9) = W at *
          refine wpAnyH_ready (rs := [2, 8]) (by kernel_rfl) (by simp) (AllReadyH.cons rfl (fun K hK => ?_) (AllReadyH.cons rfl (fun K hK => ?_) AllReadyH.nil))
          · go_simp
            refine (cBelow 8 w0 a len cap b _ hlen HR.out HD.out.cur (by omega) (by omega)).mono ?_
            rintro e W2 ⟨x, rfl, hx, hC, hG⟩
            replace HT := hid ((hG.block tb (lt_of_heap HT.out) (fun e => HTB.out (Option.some.inj e))).trans HT.out)
            replace HD := hid (HD.out.draw hC hG)
            have hx8 : (x : Int) < 8 := by omega
            clear hC hG
            go_wp2_with fail
            refine hK.out _ _ trivial (fun _ => ?_)
            clear hK K
            try simp only [Act.put, List.setIfInBounds_toArray, List.set_cons_zero, List.set_cons_succ]
            generalize W2 = W at *
            refine wpAnyH_take (i := 3) (v := ?_) rfl (by kernel_rfl) (by kernel_rfl) (by kernel_rfl) (fun _ _ _ h => h) (Or.inl ⟨by rfl, ?_⟩) trivial ?_
            rotate_left
            · intro w hSw
              go_simp
              try (with_reducible rfl)
            try simp only [Act.put, List.setIfInBounds_toArray, List.set_cons_zero, List.set_cons_succ]
            refine wpAnyH_ready (rs := [4, 6, 8]) (by kernel_rfl) (by simp) (AllReadyH.cons rfl (fun K hK => ?_) (AllReadyH.cons rfl (fun K hK => ?_) (AllReadyH.cons rfl (fun K hK => ?_) AllReadyH.nil)))
            · obtain ⟨tA, hcA, htA⟩ := tabA_at _ tb x hx HT.out
              go_simp
              refine hK.out _ _ trivial (fun _ => ?_)
              clear hK K
              try simp only [Act.put, List.setIfInBounds_toArray, List.set_cons_zero, List.set_cons_succ]
              clear hcA
              refine wpAnyH_ready (rs := [6, 8]) (by kernel_rfl) (by simp) (AllReadyH.cons rfl (fun K hK => ?_) (AllReadyH.cons rfl (fun K hK => ?_) AllReadyH.nil))
              · go_simp
                refine (cTextV ⟨#[97, 98, 60, 38, 34, 62, 32, 49]⟩ 4 w0 a len cap b _ (by omega) (by omega) (by decide) (by decide) (by decide) hlen HR.out HD.out.cur).mono ?_
                rintro e W3 ⟨tC, rfl, htC, hC, hG⟩
                replace HT := hid ((hG.block tb (lt_of_heap HT.out) (fun e => HTB.out (Option.some.inj e))).trans HT.out)
                replace HD := hid (HD.out.draw hC hG)
                clear hC hG
                go_wp2_with fail
                refine hK.out _ _ trivial (fun _ => ?_)
                clear hK K
                try simp only [Act.put, List.setIfInBounds_toArray, List.set_cons_zero, List.set_cons_succ]
                generalize W3 = W at *
                refine wpAnyH_take (i := 7) (v := ?_) rfl (by kernel_rfl) (by kernel_rfl) (by kernel_rfl) (fun _ _ _ h => h) (Or.inl ⟨by rfl, ?_⟩) trivial ?_
                rotate_left
                · intro w hSw
                  go_simp
                  try (with_reducible rfl)
                try simp only [Act.put, List.setIfInBounds_toArray, List.set_cons_zero, List.set_cons_succ]
                refine wpAnyH_ready (rs := [8]) (by kernel_rfl) (by simp) (AllReadyH.cons rfl (fun K hK => ?_) AllReadyH.nil)
                · have HXB := hid (show w.heap.size ≤ W.heap.size ∧ ¬ v.ownBlock = some W.heap.size from ⟨HD.out.gr.size, fun e => by have := (HD.out.own.lt _ e).2; omega⟩)
                  go_simp
                  refine hK.out _ _ trivial (fun _ => ?_)
                  clear hK K
                  try simp only [Act.put, List.setIfInBounds_toArray, List.set_cons_zero, List.set_cons_succ]
                  have HX := hid (heap_alloc_new W (.cells #[.string ⟨#[]⟩, .string ⟨#[]⟩] 114))
                  replace HD := hid (HD.out.alloc (.cells #[.string ⟨#[]⟩, .string ⟨#[]⟩] 114))
                  replace HT := hid (blk_alloc HT.out (.cells #[.string ⟨#[]⟩, .string ⟨#[]⟩] 114))
                  generalize W.heap.size = bx at *
                  generalize W.alloc (.cells #[.string ⟨#[]⟩, .string ⟨#[]⟩] 114) = W at *
                  refine wpAnyH_ready (rs := [9]) (by kernel_rfl) (by simp) (AllReadyH.cons rfl (fun K hK => ?_) AllReadyH.nil)
                  · obtain ⟨⟨e0, e1⟩, f0, f1⟩ := box2e HX.out
                    go_simp
                    refine hK.out _ _ trivial (fun _ => ?_)
                    clear hK K
                    try simp only [Act.put, List.setIfInBounds_toArray, List.set_cons_zero, List.set_cons_succ]
                    refine wpAnyH_done (by kernel_rfl) ?_ _
                    go_wp2_with fail
                    go_meet
                    exact ⟨bx, tA, tC, rfl, ⟨box_set2 HX.out, HXB.out, htA, Nat.le_of_lt htC, (HD.out.set HXB.out.1 HXB.out.2 0 _).set HXB.out.1 HXB.out.2 1 _⟩⟩
              · have HXB := hid (show w.heap.size ≤ W.heap.size ∧ ¬ v.ownBlock = some W.heap.size from ⟨HD.out.gr.size, fun e => by have := (HD.out.own.lt _ e).2; omega⟩)
                go_simp
                refine hK.out _ _ trivial (fun _ => ?_)
                clear hK K
                try simp only [Act.put, List.setIfInBounds_toArray, List.set_cons_zero, List.set_cons_succ]
                have HX := hid (heap_alloc_new W (.cells #[.string ⟨#[]⟩, .string ⟨#[]⟩] 114))
                replace HD := hid (HD.out.alloc (.cells #[.string ⟨#[]⟩, .string ⟨#[]⟩] 114))
                replace HT := hid (blk_alloc HT.out (.cells #[.string ⟨#[]⟩, .string ⟨#[]⟩] 114))
                generalize W.heap.size = bx at *
                generalize W.alloc (.cells #[.string ⟨#[]⟩, .string ⟨#[]⟩] 114) = W at *
                refine wpAnyH_ready (rs := [6]) (by kernel_rfl) (by simp) (AllReadyH.cons rfl (fun K hK => ?_) AllReadyH.nil)
                · go_simp
                  refine (cTextV ⟨#[97, 98, 60, 38, 34, 62, 32, 49]⟩ 4 w0 a len cap b _ (by omega) (by omega) (by decide) (by decide) (by decide) hlen HR.out HD.out.cur).mono ?_
                  rintro e W3 ⟨tC, rfl, htC, hC, hG⟩
                  replace HT := hid ((hG.block tb (lt_of_heap HT.out) (fun e => HTB.out (Option.some.inj e))).trans HT.out)
                  replace HX := hid ((hG.block bx (lt_of_heap HX.out) (fun e => by have := HXB.out.1; have := HD.out.lt; have := Option.some.inj e; omega)).trans HX.out)
                  replace HD := hid (HD.out.draw hC hG)
                  clear hC hG
                  go_wp2_with fail
                  refine hK.out _ _ trivial (fun _ => ?_)
                  clear hK K
                  try simp only [Act.put, List.setIfInBounds_toArray, List.set_cons_zero, List.set_cons_succ]
                  generalize W3 = W at *
                  refine wpAnyH_take (i := 7) (v := ?_) rfl (by kernel_rfl) (by kernel_rfl) (by kernel_rfl) (fun _ _ _ h => h) (Or.inl ⟨by rfl, ?_⟩) trivial ?_
                  rotate_left
                  · intro w hSw
                    go_simp
                    try (with_reducible rfl)
                  try simp only [Act.put, List.setIfInBounds_toArray, List.set_cons_zero, List.set_cons_succ]
                  refine wpAnyH_ready (rs := [9]) (by kernel_rfl) (by simp) (AllReadyH.cons rfl (fun K hK => ?_) AllReadyH.nil)
                  · obtain ⟨⟨e0, e1⟩, f0, f1⟩ := box2e HX.out
                    go_simp
                    refine hK.out _ _ trivial (fun _ => ?_)
                    clear hK K
                    try simp only [Act.put, List.setIfInBounds_toArray, List.set_cons_zero, List.set_cons_succ]
                    refine wpAnyH_done (by kernel_rfl) ?_ _
                    go_wp2_with fail
                    go_meet
                    exact ⟨bx, tA, tC, rfl, ⟨box_set2 HX.out, HXB.out, htA, Nat.le_of_lt htC, (HD.out.set HXB.out.1 HXB.out.2 0 _).set HXB.out.1 HXB.out.2 1 _⟩⟩
            · go_simp
              refine (cTextV ⟨#[97, 98, 60, 38, 34, 62, 32, 49]⟩ 4 w0 a len cap b _ (by omega) (by omega) (by decide) (by decide) (by decide) hlen HR.out HD.out.cur).mono ?_
              rintro e W3 ⟨tC, rfl, htC, hC, hG⟩
              replace HT := hid ((hG.block tb (lt_of_heap HT.out) (fun e => HTB.out (Option.some.inj e))).trans HT.out)
              replace HD := hid (HD.out.draw hC hG)
              clear hC hG
              go_wp2_with fail
              refine hK.out _ _ trivial (fun _ => ?_)
              clear hK K
              try simp only [Act.put, List.setIfInBounds_toArray, List.set_cons_zero, List.set_cons_succ]
              generalize W3 = W at *
              refine wpAnyH_ready (rs := [4, 8]) (by kernel_rfl) (by simp) (AllReadyH.cons rfl (fun K hK => ?_) (AllReadyH.cons rfl (fun K hK => ?_) AllReadyH.nil))
              · obtain ⟨tA, hcA, htA⟩ := tabA_at _ tb x hx HT.out
                go_simp
                refine hK.out _ _ trivial (fun _ => ?_)
                clear hK K
                try simp only [Act.put, List.setIfInBounds_toArray, List.set_cons_zero, List.set_cons_succ]
                clear hcA
                refine wpAnyH_take (i := 7) (v := ?_) rfl (by kernel_rfl) (by kernel_rfl) (by kernel_rfl) (fun _ _ _ h => h) (Or.inl ⟨by rfl, ?_⟩) trivial ?_
                rotate_left
                · intro w hSw
                  go_simp
                  try (with_reducible rfl)
                try simp only [Act.put, List.setIfInBounds_toArray, List.set_cons_zero, List.set_cons_succ]
                refine wpAnyH_ready (rs := [8]) (by kernel_rfl) (by simp) (AllReadyH.cons rfl (fun K hK => ?_) AllReadyH.nil)
                · have HXB := hid (show w.heap.size ≤ W.heap.size ∧ ¬ v.ownBlock = some W.heap.size from ⟨HD.out.gr.size, fun e => by have := (HD.out.own.lt _ e).2; omega⟩)
                  go_simp
                  refine hK.out _ _ trivial (fun _ => ?_)
                  clear hK K
                  try simp only [Act.put, List.setIfInBounds_toArray, List.set_cons_zero, List.set_cons_succ]
                  have HX := hid (heap_alloc_new W (.cells #[.string ⟨#[]⟩, .string ⟨#[]⟩] 114))
                  replace HD := hid (HD.out.alloc (.cells #[.string ⟨#[]⟩, .string ⟨#[]⟩] 114))
                  replace HT := hid (blk_alloc HT.out (.cells #[.string ⟨#[]⟩, .string ⟨#[]⟩] 114))
                  generalize W.heap.size = bx at *
                  generalize W.alloc (.cells #[.string ⟨#[]⟩, .string ⟨#[]⟩] 114) = W at *
                  refine wpAnyH_ready (rs := [9]) (by kernel_rfl) (by simp) (AllReadyH.cons rfl (fun K hK => ?_) AllReadyH.nil)
                  · obtain ⟨⟨e0, e1⟩, f0, f1⟩ := box2e HX.out
                    go_simp
                    refine hK.out _ _ trivial (fun _ => ?_)
                    clear hK K
                    try simp only [Act.put, List.setIfInBounds_toArray, List.set_cons_zero, List.set_cons_succ]
                    refine wpAnyH_done (by kernel_rfl) ?_ _
                    go_wp2_with fail
                    go_meet
                    exact ⟨bx, tA, tC, rfl, ⟨box_set2 HX.out, HXB.out, htA, Nat.le_of_lt htC, (HD.out.set HXB.out.1 HXB.out.2 0 _).set HXB.out.1 HXB.out.2 1 _⟩⟩
              · have HXB := hid (show w.heap.size ≤ W.heap.size ∧ ¬ v.ownBlock = some W.heap.size from ⟨HD.out.gr.size, fun e => by have := (HD.out.own.lt _ e).2; omega⟩)
                go_simp
                refine hK.out _ _ trivial (fun _ => ?_)
                clear hK K
                try simp only [Act.put, List.setIfInBounds_toArray, List.set_cons_zero, List.set_cons_succ]
                have HX := hid (heap_alloc_new W (.cells #[.string ⟨#[]⟩, .string ⟨#[]⟩] 114))
                replace HD := hid (HD.out.alloc (.cells #[.string ⟨#[]⟩, .string ⟨#[]⟩] 114))
                replace HT := hid (blk_alloc HT.out (.cells #[.string ⟨#[]⟩, .string ⟨#[]⟩] 114))
                generalize W.heap.size = bx at *
                generalize W.alloc (.cells #[.string ⟨#[]⟩, .string ⟨#[]⟩] 114) = W at *
                refine wpAnyH_ready (rs := [4]) (by kernel_rfl) (by simp) (AllReadyH.cons rfl (fun K hK => ?_) AllReadyH.nil)
                · obtain ⟨tA, hcA, htA⟩ := tabA_at _ tb x hx HT.out
                  go_simp
                  refine hK.out _ _ trivial (fun _ => ?_)
                  clear hK K
                  try simp only [Act.put, List.setIfInBounds_toArray, List.set_cons_zero, List.set_cons_succ]
                  clear hcA
                  refine wpAnyH_take (i := 7) (v := ?_) rfl (by kernel_rfl) (by kernel_rfl) (by kernel_rfl) (fun _ _ _ h => h) (Or.inl ⟨by rfl, ?_⟩) trivial ?_
                  rotate_left
                  · intro w hSw
                    go_simp
                    try (with_reducible rfl)
                  try simp only [Act.put, List.setIfInBounds_toArray, List.set_cons_zero, List.set_cons_succ]
                  refine wpAnyH_ready (rs := [9]) (by kernel_rfl) (by simp) (AllReadyH.cons rfl (fun K hK => ?_) AllReadyH.nil)
                  · obtain ⟨⟨e0, e1⟩, f0, f1⟩ := box2e HX.out
                    go_simp
                    refine hK.out _ _ trivial (fun _ => ?_)
                    clear hK K
                    try simp only [Act.put, List.setIfInBounds_toArray, List.set_cons_zero, List.set_cons_succ]
                    refine wpAnyH_done (by kernel_rfl) ?_ _
                    go_wp2_with fail
                    go_meet
                    exact ⟨bx, tA, tC, rfl, ⟨box_set2 HX.out, HXB.out, htA, Nat.le_of_lt htC, (HD.out.set HXB.out.1 HXB.out.2 0 _).set HXB.out.1 HXB.out.2 1 _⟩⟩
            · have HXB := hid (show w.heap.size ≤ W.heap.size ∧ ¬ v.ownBlock = some W.heap.size from ⟨HD.out.gr.size, fun e => by have := (HD.out.own.lt _ e).2; omega⟩)
              go_simp
              refine hK.out _ _ trivial (fun _ => ?_)
              clear hK K
              try simp only [Act.put, List.setIfInBounds_toArray, List.set_cons_zero, List.set_cons_succ]
              have HX := hid (heap_alloc_new W (.cells #[.string ⟨#[]⟩, .string ⟨#[]⟩] 114))
              replace HD := hid (HD.out.alloc (.cells #[.string ⟨#[]⟩, .string ⟨#[]⟩] 114))
              replace HT := hid (blk_alloc HT.out (.cells #[.string ⟨#[]⟩, .string ⟨#[]⟩] 114))
              generalize W.heap.size = bx at *
              generalize W.alloc (.cells #[.string ⟨#[]⟩, .string ⟨#[]⟩] 114) = W at *
              refine wpAnyH_ready (rs := [4, 6]) (by kernel_rfl) (by simp) (AllReadyH.cons rfl (fun K hK => ?_) (AllReadyH.cons rfl (fun K hK => ?_) AllReadyH.nil))
              · obtain ⟨tA, hcA, htA⟩ := tabA_at _ tb x hx HT.out
                go_simp
                refine hK.out _ _ trivial (fun _ => ?_)
                clear hK K
                try simp only [Act.put, List.setIfInBounds_toArray, List.set_cons_zero, List.set_cons_succ]
                clear hcA
                refine wpAnyH_ready (rs := [6]) (by kernel_rfl) (by simp) (AllReadyH.cons rfl (fun K hK => ?_) AllReadyH.nil)
                · go_simp
                  refine (cTextV ⟨#[97, 98, 60, 38, 34, 62, 32, 49]⟩ 4 w0 a len cap b _ (by omega) (by omega) (by decide) (by decide) (by decide) hlen HR.out HD.out.cur).mono ?_
                  rintro e W3 ⟨tC, rfl, htC, hC, hG⟩
                  replace HT := hid ((hG.block tb (lt_of_heap HT.out) (fun e => HTB.out (Option.some.inj e))).trans HT.out)
                  replace HX := hid ((hG.block bx (lt_of_heap HX.out) (fun e => by have := HXB.out.1; have := HD.out.lt; have := Option.some.inj e; omega)).trans HX.out)
                  replace HD := hid (HD.out.draw hC hG)
                  clear hC hG
                  go_wp2_with fail
                  refine hK.out _ _ trivial (fun _ => ?_)
                  clear hK K
                  try simp only [Act.put, List.setIfInBounds_toArray, List.set_cons_zero, List.set_cons_succ]
                  generalize W3 = W at *
                  refine wpAnyH_take (i := 7) (v := ?_) rfl (by kernel_rfl) (by kernel_rfl) (by kernel_rfl) (fun _ _ _ h => h) (Or.inl ⟨by rfl, ?_⟩) trivial ?_
                  rotate_left
                  · intro w hSw
                    go_simp
                    try (with_reducible rfl)
                  try simp only [Act.put, List.setIfInBounds_toArray, List.set_cons_zero, List.set_cons_succ]
                  refine wpAnyH_ready (rs := [9]) (by kernel_rfl) (by simp) (AllReadyH.cons rfl (fun K hK => ?_) AllReadyH.nil)
                  · obtain ⟨⟨e0, e1⟩, f0, f1⟩ := box2e HX.out
                    go_simp
                    refine hK.out _ _ trivial (fun _ => ?_)
                    clear hK K
                    try simp only [Act.put, List.setIfInBounds_toArray, List.set_cons_zero, List.set_cons_succ]
                    refine wpAnyH_done (by kernel_rfl) ?_ _
                    go_wp2_with fail
                    go_meet
                    exact ⟨bx, tA, tC, rfl, ⟨box_set2 HX.out, HXB.out, htA, Nat.le_of_lt htC, (HD.out.set HXB.out.1 HXB.out.2 0 _).set HXB.out.1 HXB.out.2 1 _⟩⟩
              · go_simp
                refine (cTextV ⟨#[97, 98, 60, 38, 34, 62, 32, 49]⟩ 4 w0 a len cap b _ (by omega) (by omega) (by decide) (by decide) (by decide) hlen HR.out HD.out.cur).mono ?_
                rintro e W3 ⟨tC, rfl, htC, hC, hG⟩
                replace HT := hid ((hG.block tb (lt_of_heap HT.out) (fun e => HTB.out (Option.some.inj e))).trans HT.out)
                replace HX := hid ((hG.block bx (lt_of_heap HX.out) (fun e => by have := HXB.out.1; have := HD.out.lt; have := Option.some.inj e; omega)).trans HX.out)
                replace HD := hid (HD.out.draw hC hG)
                clear hC hG
                go_wp2_with fail
                refine hK.out _ _ trivial (fun _ => ?_)
                clear hK K
                try simp only [Act.put, List.setIfInBounds_toArray, List.set_cons_zero, List.set_cons_succ]
                generalize W3 = W at *
                refine wpAnyH_ready (rs := [4]) (by kernel_rfl) (by simp) (AllReadyH.cons rfl (fun K hK => ?_) AllReadyH.nil)
                · obtain ⟨tA, hcA, htA⟩ := tabA_at _ tb x hx HT.out
                  go_simp
                  refine hK.out _ _ trivial (fun _ => ?_)
                  clear hK K
                  try simp only [Act.put, List.setIfInBounds_toArray, List.set_cons_zero, List.set_cons_succ]
                  clear hcA
                  refine wpAnyH_take (i := 7) (v := ?_) rfl (by kernel_rfl) (by kernel_rfl) (by kernel_rfl) (fun _ _ _ h => h) (Or.inl ⟨by rfl, ?_⟩) trivial ?_
                  rotate_left
                  · intro w hSw
                    go_simp
                    try (with_reducible rfl)
                  try simp only [Act.put, List.setIfInBounds_toArray, List.set_cons_zero, List.set_cons_succ]
                  refine wpAnyH_ready (rs := [9]) (by kernel_rfl) (by simp) (AllReadyH.cons rfl (fun K hK => ?_) AllReadyH.nil)
                  · obtain ⟨⟨e0, e1⟩, f0, f1⟩ := box2e HX.out
                    go_simp
                    refine hK.out _ _ trivial (fun _ => ?_)
                    clear hK K
                    try simp only [Act.put, List.setIfInBounds_toArray, List.set_cons_zero, List.set_cons_succ]
                    refine wpAnyH_done (by kernel_rfl) ?_ _
                    go_wp2_with fail
                    go_meet
                    exact ⟨bx, tA, tC, rfl, ⟨box_set2 HX.out, HXB.out, htA, Nat.le_of_lt htC, (HD.out.set HXB.out.1 HXB.out.2 0 _).set HXB.out.1 HXB.out.2 1 _⟩⟩
          · have HXB := hid (show w.heap.size ≤ W.heap.size ∧ ¬ v.ownBlock = some W.heap.size from ⟨HD.out.gr.size, fun e => by have := (HD.out.own.lt _ e).2; omega⟩)
            go_simp
            refine hK.out _ _ trivial (fun _ => ?_)
            clear hK K
            try simp only [Act.put, List.setIfInBounds_toArray, List.set_cons_zero, List.set_cons_succ]
            have HX := hid (heap_alloc_new W (.cells #[.string ⟨#[]⟩, .string ⟨#[]⟩] 114))
            replace HD := hid (HD.out.alloc (.cells #[.string ⟨#[]⟩, .string ⟨#[]⟩] 114))
            replace HT := hid (blk_alloc HT.out (.cells #[.string ⟨#[]⟩, .string ⟨#[]⟩] 114))
            generalize W.heap.size = bx at *
            generalize W.alloc (.cells #[.string ⟨#[]⟩, .string ⟨#[]⟩] 114) = W at *
            refine wpAnyH_ready (rs := [2]) (by kernel_rfl) (by simp) (AllReadyH.cons rfl (fun K hK => ?_) AllReadyH.nil)
            · go_simp
              refine (cBelow 8 w0 a len cap b _ hlen HR.out HD.out.cur (by omega) (by omega)).mono ?_
              rintro e W2 ⟨x, rfl, hx, hC, hG⟩
              replace HT := hid ((hG.block tb (lt_of_heap HT.out) (fun e => HTB.out (Option.some.inj e))).trans HT.out)
              replace HX := hid ((hG.block bx (lt_of_heap HX.out) (fun e => by have := HXB.out.1; have := HD.out.lt; have := Option.some.inj e; omega)).trans HX.out)
              replace HD := hid (HD.out.draw hC hG)
              have hx8 : (x : Int) < 8 := by omega
              clear hC hG
              go_wp2_with fail
              refine hK.out _ _ trivial (fun _ => ?_)
              clear hK K
              try simp only [Act.put, List.setIfInBounds_toArray, List.set_cons_zero, List.set_cons_succ]
              generalize W2 = W at *
              refine wpAnyH_take (i := 3) (v := ?_) rfl (by kernel_rfl) (by kernel_rfl) (by kernel_rfl) (fun _ _ _ h => h) (Or.inl ⟨by rfl, ?_⟩) trivial ?_
              rotate_left
              · intro w hSw
                go_simp
                try (with_reducible rfl)
              try simp only [Act.put, List.setIfInBounds_toArray, List.set_cons_zero, List.set_cons_succ]
              refine wpAnyH_ready (rs := [4, 6]) (by kernel_rfl) (by simp) (AllReadyH.cons rfl (fun K hK => ?_) (AllReadyH.cons rfl (fun K hK => ?_) AllReadyH.nil))
              · obtain ⟨tA, hcA, htA⟩ := tabA_at _ tb x hx HT.out
                go_simp
                refine hK.out _ _ trivial (fun _ => ?_)
                clear hK K
                try simp only [Act.put, List.setIfInBounds_toArray, List.set_cons_zero, List.set_cons_succ]
                clear hcA
                refine wpAnyH_ready (rs := [6]) (by kernel_rfl) (by simp) (AllReadyH.cons rfl (fun K hK => ?_) AllReadyH.nil)
                · go_simp
                  refine (cTextV ⟨#[97, 98, 60, 38, 34, 62, 32, 49]⟩ 4 w0 a len cap b _ (by omega) (by omega) (by decide) (by decide) (by decide) hlen HR.out HD.out.cur).mono ?_
                  rintro e W3 ⟨tC, rfl, htC, hC, hG⟩
                  replace HT := hid ((hG.block tb (lt_of_heap HT.out) (fun e => HTB.out (Option.some.inj e))).trans HT.out)
                  replace HX := hid ((hG.block bx (lt_of_heap HX.out) (fun e => by have := HXB.out.1; have := HD.out.lt; have := Option.some.inj e; omega)).trans HX.out)
                  replace HD := hid (HD.out.draw hC hG)
                  clear hC hG
                  go_wp2_with fail
                  refine hK.out _ _ trivial (fun _ => ?_)
                  clear hK K
                  try simp only [Act.put, List.setIfInBounds_toArray, List.set_cons_zero, List.set_cons_succ]
                  generalize W3 = W at *
                  refine wpAnyH_take (i := 7) (v := ?_) rfl (by kernel_rfl) (by kernel_rfl) (by kernel_rfl) (fun _ _ _ h => h) (Or.inl ⟨by rfl, ?_⟩) trivial ?_
                  rotate_left
                  · intro w hSw
                    go_simp
                    try (with_reducible rfl)
                  try simp only [Act.put, List.setIfInBounds_toArray, List.set_cons_zero, List.set_cons_succ]
                  refine wpAnyH_ready (rs := [9]) (by kernel_rfl) (by simp) (AllReadyH.cons rfl (fun K hK => ?_) AllReadyH.nil)
                  · obtain ⟨⟨e0, e1⟩, f0, f1⟩ := box2e HX.out
                    go_simp
                    refine hK.out _ _ trivial (fun _ => ?_)
                    clear hK K
                    try simp only [Act.put, List.setIfInBounds_toArray, List.set_cons_zero, List.set_cons_succ]
                    refine wpAnyH_done (by kernel_rfl) ?_ _
                    go_wp2_with fail
                    go_meet
                    exact ⟨bx, tA, tC, rfl, ⟨box_set2 HX.out, HXB.out, htA, Nat.le_of_lt htC, (HD.out.set HXB.out.1 HXB.out.2 0 _).set HXB.out.1 HXB.out.2 1 _⟩⟩
              · go_simp
                refine (cTextV ⟨#[97, 98, 60, 38, 34, 62, 32, 49]⟩ 4 w0 a len cap b _ (by omega) (by omega) (by decide) (by decide) (by decide) hlen HR.out HD.out.cur).mono ?_
                rintro e W3 ⟨tC, rfl, htC, hC, hG⟩
                replace HT := hid ((hG.block tb (lt_of_heap HT.out) (fun e => HTB.out (Option.some.inj e))).trans HT.out)
                replace HX := hid ((hG.block bx (lt_of_heap HX.out) (fun e => by have := HXB.out.1; have := HD.out.lt; have := Option.some.inj e; omega)).trans HX.out)
                replace HD := hid (HD.out.draw hC hG)
                clear hC hG
                go_wp2_with fail
                refine hK.out _ _ trivial (fun _ => ?_)
                clear hK K
                try simp only [Act.put, List.setIfInBounds_toArray, List.set_cons_zero, List.set_cons_succ]
                generalize W3 = W at *
                refine wpAnyH_ready (rs := [4]) (by kernel_rfl) (by simp) (AllReadyH.cons rfl (fun K hK => ?_) AllReadyH.nil)
                · obtain ⟨tA, hcA, htA⟩ := tabA_at _ tb x hx HT.out
                  go_simp
                  refine hK.out _ _ trivial (fun _ => ?_)
                  clear hK K
                  try simp only [Act.put, List.setIfInBounds_toArray, List.set_cons_zero, List.set_cons_succ]
                  clear hcA
                  refine wpAnyH_take (i := 7) (v := ?_) rfl (by kernel_rfl) (by kernel_rfl) (by kernel_rfl) (fun _ _ _ h => h) (Or.inl ⟨by rfl, ?_⟩) trivial ?_
                  rotate_left
                  · intro w hSw
                    go_simp
                    try (with_reducible rfl)
                  try simp only [Act.put, List.setIfInBounds_toArray, List.set_cons_zero, List.set_cons_succ]
                  refine wpAnyH_ready (rs := [9]) (by kernel_rfl) (by simp) (AllReadyH.cons rfl (fun K hK => ?_) AllReadyH.nil)
                  · obtain ⟨⟨e0, e1⟩, f0, f1⟩ := box2e HX.out
                    go_simp
                    refine hK.out _ _ trivial (fun _ => ?_)
                    clear hK K
                    try simp only [Act.put, List.setIfInBounds_toArray, List.set_cons_zero, List.set_cons_succ]
                    refine wpAnyH_done (by kernel_rfl) ?_ _
                    go_wp2_with fail
                    go_meet
                    exact ⟨bx, tA, tC, rfl, ⟨box_set2 HX.out, HXB.out, htA, Nat.le_of_lt htC, (HD.out.set HXB.out.1 HXB.out.2 0 _).set HXB.out.1 HXB.out.2 1 _⟩⟩
        · go_simp
          refine (cBelow 8 w0 a len cap b _ hlen HR.out HD.out.cur (by omega) (by omega)).mono ?_
          rintro e W2 ⟨x, rfl, hx, hC, hG⟩
          replace HD := hid (HD.out.draw hC hG)
          have hx8 : (x : Int) < 8 := by omega
          clear hC hG
          go_wp2_with fail
          refine hK.out _ _ trivial (fun _ => ?_)
          clear hK K
          try simp only [Act.put, List.setIfInBounds_toArray, List.set_cons_zero, List.set_cons_succ]
          generalize W2 = W at *
          refine wpAnyH_ready (rs := [0, 6, 8]) (by kernel_rfl) (by simp) (AllReadyH.cons rfl (fun K hK => ?_) (AllReadyH.cons rfl (fun K hK => ?_) (AllReadyH.cons rfl (fun K hK => ?_) AllReadyH.nil)))
          · have HTB := hid (show ¬ W.heap.size = b by have := HD.out.gr.size; have := HD.out.lt; omega)
            go_simp
            refine hK.out _ _ trivial (fun _ => ?_)
            clear hK K
            try simp only [Act.put, List.setIfInBounds_toArray, List.set_cons_zero, List.set_cons_succ]
            have HT := hid (heap_alloc_new W (.cells #[.string ⟨#[97]⟩, .string ⟨#[120]⟩, .string ⟨#[112, 58, 97]⟩, .string ⟨#[113, 58, 97]⟩, .string ⟨#[112, 58, 120]⟩, .string ⟨#[110, 115]⟩, .string ⟨#[110, 115, 58, 112]⟩, .string ⟨#[73, 100]⟩] 9))
            replace HD := hid (HD.out.alloc (.cells #[.string ⟨#[97]⟩, .string ⟨#[120]⟩, .string ⟨#[112, 58, 97]⟩, .string ⟨#[113, 58, 97]⟩, .string ⟨#[112, 58, 120]⟩, .string ⟨#[110, 115]⟩, .string ⟨#[110, 115, 58, 112]⟩, .string ⟨#[73, 100]⟩] 9))
            generalize W.heap.size = tb at *
            generalize W.alloc (.cells #[.string ⟨#[97]⟩, .string ⟨#[120]⟩, .string ⟨#[112, 58, 97]⟩, .string ⟨#[113, 58, 97]⟩, .string ⟨#[112, 58, 120]⟩, .string ⟨#[110, 115]⟩, .string ⟨#[110, 115, 58, 112]⟩, .string ⟨#[73, 100]⟩] 9) = W at *
            refine wpAnyH_take (i := 3) (v := ?_) rfl (by kernel_rfl) (by kernel_rfl) (by kernel_rfl) (fun _ _ _ h => h) (Or.inl ⟨by rfl, ?_⟩) trivial ?_
            rotate_left
            · intro w hSw
              go_simp
              try (with_reducible rfl)
            try simp only [Act.put, List.setIfInBounds_toArray, List.set_cons_zero, List.set_cons_succ]
            refine wpAnyH_ready (rs := [4, 6, 8]) (by kernel_rfl) (by simp) (AllReadyH.cons rfl (fun K hK => ?_) (AllReadyH.cons rfl (fun K hK => ?_) (AllReadyH.cons rfl (fun K hK => ?_) AllReadyH.nil)))
            · obtain ⟨tA, hcA, htA⟩ := tabA_at _ tb x hx HT.out
              go_simp
              refine hK.out _ _ trivial (fun _ => ?_)
              clear hK K
              try simp only [Act.put, List.setIfInBounds_toArray, List.set_cons_zero, List.set_cons_succ]
              clear hcA
              refine wpAnyH_ready (rs := [6, 8]) (by kernel_rfl) (by simp) (AllReadyH.cons rfl (fun K hK => ?_) (AllReadyH.cons rfl (fun K hK => ?_) AllReadyH.nil))
              · go_simp
                refine (cTextV ⟨#[97, 98, 60, 38, 34, 62, 32, 49]⟩ 4 w0 a len cap b _ (by omega) (by omega) (by decide) (by decide) (by decide) hlen HR.out HD.out.cur).mono ?_
                rintro e W3 ⟨tC, rfl, htC, hC, hG⟩
                replace HT := hid ((hG.block tb (lt_of_heap HT.out) (fun e => HTB.out (Option.some.inj e))).trans HT.out)
                replace HD := hid (HD.out.draw hC hG)
                clear hC hG
                go_wp2_with fail
                refine hK.out _ _ trivial (fun _ => ?_)
                clear hK K
                try simp only [Act.put, List.setIfInBounds_toArray, List.set_cons_zero, List.set_cons_succ]
                generalize W3 = W at *
                refine wpAnyH_take (i := 7) (v := ?_) rfl (by kernel_rfl) (by kernel_rfl) (by kernel_rfl) (fun _ _ _ h => h) (Or.inl ⟨by rfl, ?_⟩) trivial ?_
                rotate_left
                · intro w hSw
                  go_simp
                  try (with_reducible rfl)
                try simp only [Act.put, List.setIfInBounds_toArray, List.set_cons_zero, List.set_cons_succ]
                refine wpAnyH_ready (rs := [8]) (by kernel_rfl) (by simp) (AllReadyH.cons rfl (fun K hK => ?_) AllReadyH.nil)
                · have HXB := hid (show w.heap.size ≤ W.heap.size ∧ ¬ v.ownBlock = some W.heap.size from ⟨HD.out.gr.size, fun e => by have := (HD.out.own.lt _ e).2; omega⟩)
                  go_simp
                  refine hK.out _ _ trivial (fun _ => ?_)
                  clear hK K
                  try simp only [Act.put, List.setIfInBounds_toArray, List.set_cons_zero, List.set_cons_succ]
                  have HX := hid (heap_alloc_new W (.cells #[.string ⟨#[]⟩, .string ⟨#[]⟩] 114))
                  replace HD := hid (HD.out.alloc (.cells #[.string ⟨#[]⟩, .string ⟨#[]⟩] 114))
                  replace HT := hid (blk_alloc HT.out (.cells #[.string ⟨#[]⟩, .string ⟨#[]⟩] 114))
                  generalize W.heap.size = bx at *
                  generalize W.alloc (.cells #[.string ⟨#[]⟩, .string ⟨#[]⟩] 114) = W at *
                  refine wpAnyH_ready (rs := [9]) (by kernel_rfl) (by simp) (AllReadyH.cons rfl (fun K hK => ?_) AllReadyH.nil)
                  · obtain ⟨⟨e0, e1⟩, f0, f1⟩ := box2e HX.out
                    go_simp
                    refine hK.out _ _ trivial (fun _ => ?_)
                    clear hK K
                    try simp only [Act.put, List.setIfInBounds_toArray, List.set_cons_zero, List.set_cons_succ]
                    refine wpAnyH_done (by kernel_rfl) ?_ _
                    go_wp2_with fail
                    go_meet
                    exact ⟨bx, tA, tC, rfl, ⟨box_set2 HX.out, HXB.out, htA, Nat.le_of_lt htC, (HD.out.set HXB.out.1 HXB.out.2 0 _).set HXB.out.1 HXB.out.2 1 _⟩⟩
              · have HXB := hid (show w.heap.size ≤ W.heap.size ∧ ¬ v.ownBlock = some W.heap.size from ⟨HD.out.gr.size, fun e => by have := (HD.out.own.lt _ e).2; omega⟩)
                go_simp
                refine hK.out _ _ trivial (fun _ => ?_)
                clear hK K
                try simp only [Act.put, List.setIfInBounds_toArray, List.set_cons_zero, List.set_cons_succ]
                have HX := hid (heap_alloc_new W (.cells #[.string ⟨#[]⟩, .string ⟨#[]⟩] 114))
                replace HD := hid (HD.out.alloc (.cells #[.string ⟨#[]⟩, .string ⟨#[]⟩] 114))
                replace HT := hid (blk_alloc HT.out (.cells #[.string ⟨#[]⟩, .string ⟨#[]⟩] 114))
                generalize W.heap.size = bx at *
                generalize W.alloc (.cells #[.string ⟨#[]⟩, .string ⟨#[]⟩] 114) = W at *
                refine wpAnyH_ready (rs := [6]) (by kernel_rfl) (by simp) (AllReadyH.cons rfl (fun K hK => ?_) AllReadyH.nil)
                · go_simp
                  refine (cTextV ⟨#[97, 98, 60, 38, 34, 62, 32, 49]⟩ 4 w0 a len cap b _ (by omega) (by omega) (by decide) (by decide) (by decide) hlen HR.out HD.out.cur).mono ?_
                  rintro e W3 ⟨tC, rfl, htC, hC, hG⟩
                  replace HT := hid ((hG.block tb (lt_of_heap HT.out) (fun e => HTB.out (Option.some.inj e))).trans HT.out)
                  replace HX := hid ((hG.block bx (lt_of_heap HX.out) (fun e => by have := HXB.out.1; have := HD.out.lt; have := Option.some.inj e; omega)).trans HX.out)
                  replace HD := hid (HD.out.draw hC hG)
                  clear hC hG
                  go_wp2_with fail
                  refine hK.out _ _ trivial (fun _ => ?_)
                  clear hK K
                  try simp only [Act.put, List.setIfInBounds_toArray, List.set_cons_zero, List.set_cons_succ]
                  generalize W3 = W at *
                  refine wpAnyH_take (i := 7) (v := ?_) rfl (by kernel_rfl) (by kernel_rfl) (by kernel_rfl) (fun _ _ _ h => h) (Or.inl ⟨by rfl, ?_⟩) trivial ?_
                  rotate_left
                  · intro w hSw
                    go_simp
                    try (with_reducible rfl)
                  try simp only [Act.put, List.setIfInBounds_toArray, List.set_cons_zero, List.set_cons_succ]
                  refine wpAnyH_ready (rs := [9]) (by kernel_rfl) (by simp) (AllReadyH.cons rfl (fun K hK => ?_) AllReadyH.nil)
                  · obtain ⟨⟨e0, e1⟩, f0, f1⟩ := box2e HX.out
                    go_simp
                    refine hK.out _ _ trivial (fun _ => ?_)
                    clear hK K
                    try simp only [Act.put, List.setIfInBounds_toArray, List.set_cons_zero, List.set_cons_succ]
                    refine wpAnyH_done (by kernel_rfl) ?_ _
                    go_wp2_with fail
                    go_meet
                    exact ⟨bx, tA, tC, rfl, ⟨box_set2 HX.out, HXB.out, htA, Nat.le_of_lt htC, (HD.out.set HXB.out.1 HXB.out.2 0 _).set HXB.out.1 HXB.out.2 1 _⟩⟩
            · go_simp
              refine (cTextV ⟨#[97, 98, 60, 38, 34, 62, 32, 49]⟩ 4 w0 a len cap b _ (by omega) (by omega) (by decide) (by decide) (by decide) hlen HR.out HD.out.cur).mono ?_
              rintro e W3 ⟨tC, rfl, htC, hC, hG⟩
              replace HT := hid ((hG.block tb (lt_of_heap HT.out) (fun e => HTB.out (Option.some.inj e))).trans HT.out)
              replace HD := hid (HD.out.draw hC hG)
              clear hC hG
              go_wp2_with fail
              refine hK.out _ _ trivial (fun _ => ?_)
              clear hK K
              try simp only [Act.put, List.setIfInBounds_toArray, List.set_cons_zero, List.set_cons_succ]
              generalize W3 = W at *
              refine wpAnyH_ready (rs := [4, 8]) (by kernel_rfl) (by simp) (AllReadyH.cons rfl (fun K hK => ?_) (AllReadyH.cons rfl (fun K hK => ?_) AllReadyH.nil))
              · obtain ⟨tA, hcA, htA⟩ := tabA_at _ tb x hx HT.out
                go_simp
                refine hK.out _ _ trivial (fun _ => ?_)
                clear hK K
                try simp only [Act.put, List.setIfInBounds_toArray, List.set_cons_zero, List.set_cons_succ]
                clear hcA
                refine wpAnyH_take (i := 7) (v := ?_) rfl (by kernel_rfl) (by kernel_rfl) (by kernel_rfl) (fun _ _ _ h => h) (Or.inl ⟨by rfl, ?_⟩) trivial ?_
                rotate_left
                · intro w hSw
                  go_simp
                  try (with_reducible rfl)
                try simp only [Act.put, List.setIfInBounds_toArray, List.set_cons_zero, List.set_cons_succ]
                refine wpAnyH_ready (rs := [8]) (by kernel_rfl) (by simp) (AllReadyH.cons rfl (fun K hK => ?_) AllReadyH.nil)
                · have HXB := hid (show w.heap.size ≤ W.heap.size ∧ ¬ v.ownBlock = some W.heap.size from ⟨HD.out.gr.size, fun e => by have := (HD.out.own.lt _ e).2; omega⟩)
                  go_simp
                  refine hK.out _ _ trivial (fun _ => ?_)
                  clear hK K
                  try simp only [Act.put, List.setIfInBounds_toArray, List.set_cons_zero, List.set_cons_succ]
                  have HX := hid (heap_alloc_new W (.cells #[.string ⟨#[]⟩, .string ⟨#[]⟩] 114))
                  replace HD := hid (HD.out.alloc (.cells #[.string ⟨#[]⟩, .string ⟨#[]⟩] 114))
                  replace HT := hid (blk_alloc HT.out (.cells #[.string ⟨#[]⟩, .string ⟨#[]⟩] 114))
                  generalize W.heap.size = bx at *
                  generalize W.alloc (.cells #[.string ⟨#[]⟩, .string ⟨#[]⟩] 114) = W at *
                  refine wpAnyH_ready (rs := [9]) (by kernel_rfl) (by simp) (AllReadyH.cons rfl (fun K hK => ?_) AllReadyH.nil)
                  · obtain ⟨⟨e0, e1⟩, f0, f1⟩ := box2e HX.out
                    go_simp
                    refine hK.out _ _ trivial (fun _ => ?_)
                    clear hK K
                    try simp only [Act.put, List.setIfInBounds_toArray, List.set_cons_zero, List.set_cons_succ]
                    refine wpAnyH_done (by kernel_rfl) ?_ _
                    go_wp2_with fail
                    go_meet
                    exact ⟨bx, tA, tC, rfl, ⟨box_set2 HX.out, HXB.out, htA, Nat.le_of_lt htC, (HD.out.set HXB.out.1 HXB.out.2 0 _).set HXB.out.1 HXB.out.2 1 _⟩⟩
              · have HXB := hid (show w.heap.size ≤ W.heap.size ∧ ¬ v.ownBlock = some W.heap.size from ⟨HD.out.gr.size, fun e => by have := (HD.out.own.lt _ e).2; omega⟩)
                go_simp
                refine hK.out _ _ trivial (fun _ => ?_)
                clear hK K
                try simp only [Act.put, List.setIfInBounds_toArray, List.set_cons_zero, List.set_cons_succ]
                have HX := hid (heap_alloc_new W (.cells #[.string ⟨#[]⟩, .string ⟨#[]⟩] 114))
                replace HD := hid (HD.out.alloc (.cells #[.string ⟨#[]⟩, .string ⟨#[]⟩] 114))
                replace HT := hid (blk_alloc HT.out (.cells #[.string ⟨#[]⟩, .string ⟨#[]⟩] 114))
                generalize W.heap.size = bx at *
                generalize W.alloc (.cells #[.string ⟨#[]⟩, .string ⟨#[]⟩] 114) = W at *
                refine wpAnyH_ready (rs := [4]) (by kernel_rfl) (by simp) (AllReadyH.cons rfl (fun K hK => ?_) AllReadyH.nil)
                · obtain ⟨tA, hcA, htA⟩ := tabA_at _ tb x hx HT.out
                  go_simp
                  refine hK.out _ _ trivial (fun _ => ?_)
                  clear hK K
                  try simp only [Act.put, List.setIfInBounds_toArray, List.set_cons_zero, List.set_cons_succ]
                  clear hcA
                  refine wpAnyH_take (i := 7) (v := ?_) rfl (by kernel_rfl) (by kernel_rfl) (by kernel_rfl) (fun _ _ _ h => h) (Or.inl ⟨by rfl, ?_⟩) trivial ?_
                  rotate_left
                  · intro w hSw
                    go_simp
                    try (with_reducible rfl)
                  try simp only [Act.put, List.setIfInBounds_toArray, List.set_cons_zero, List.set_cons_succ]
                  refine wpAnyH_ready (rs := [9]) (by kernel_rfl) (by simp) (AllReadyH.cons rfl (fun K hK => ?_) AllReadyH.nil)
                  · obtain ⟨⟨e0, e1⟩, f0, f1⟩ := box2e HX.out
                    go_simp
                    refine hK.out _ _ trivial (fun _ => ?_)
                    clear hK K
                    try simp only [Act.put, List.setIfInBounds_toArray, List.set_cons_zero, List.set_cons_succ]
                    refine wpAnyH_done (by kernel_rfl) ?_ _
                    go_wp2_with fail
                    go_meet
                    exact ⟨bx, tA, tC, rfl, ⟨box_set2 HX.out, HXB.out, htA, Nat.le_of_lt htC, (HD.out.set HXB.out.1 HXB.out.2 0 _).set HXB.out.1 HXB.out.2 1 _⟩⟩
            · have HXB := hid (show w.heap.size ≤ W.heap.size ∧ ¬ v.ownBlock = some W.heap.size from ⟨HD.out.gr.size, fun e => by have := (HD.out.own.lt _ e).2; omega⟩)
              go_simp
              refine hK.out _ _ trivial (fun _ => ?_)
              clear hK K
              try simp only [Act.put, List.setIfInBounds_toArray, List.set_cons_zero, List.set_cons_succ]
              have HX := hid (heap_alloc_new W (.cells #[.string ⟨#[]⟩, .string ⟨#[]⟩] 114))
              replace HD := hid (HD.out.alloc (.cells #[.string ⟨#[]⟩, .string ⟨#[]⟩] 114))
              replace HT := hid (blk_alloc HT.out (.cells #[.string ⟨#[]⟩, .string ⟨#[]⟩] 114))
              generalize W.heap.size = bx at *
              generalize W.alloc (.cells #[.string ⟨#[]⟩, .string ⟨#[]⟩] 114) = W at *
              refine wpAnyH_ready (rs := [4, 6]) (by kernel_rfl) (by simp) (AllReadyH.cons rfl (fun K hK => ?_) (AllReadyH.cons rfl (fun K hK => ?_) AllReadyH.nil))
              · obtain ⟨tA, hcA, htA⟩ := tabA_at _ tb x hx HT.out
                go_simp
                refine hK.out _ _ trivial (fun _ => ?_)
                clear hK K
                try simp only [Act.put, List.setIfInBounds_toArray, List.set_cons_zero, List.set_cons_succ]
                clear hcA
                refine wpAnyH_ready (rs := [6]) (by kernel_rfl) (by simp) (AllReadyH.cons rfl (fun K hK => ?_) AllReadyH.nil)
                · go_simp
                  refine (cTextV ⟨#[97, 98, 60, 38, 34, 62, 32, 49]⟩ 4 w0 a len cap b _ (by omega) (by omega) (by decide) (by decide) (by decide) hlen HR.out HD.out.cur).mono ?_
                  rintro e W3 ⟨tC, rfl, htC, hC, hG⟩
                  replace HT := hid ((hG.block tb (lt_of_heap HT.out) (fun e => HTB.out (Option.some.inj e))).trans HT.out)
                  replace HX := hid ((hG.block bx (lt_of_heap HX.out) (fun e => by have := HXB.out.1; have := HD.out.lt; have := Option.some.inj e; omega)).trans HX.out)
                  replace HD := hid (HD.out.draw hC hG)
                  clear hC hG
                  go_wp2_with fail
                  refine hK.out _ _ trivial (fun _ => ?_)
                  clear hK K
                  try simp only [Act.put, List.setIfInBounds_toArray, List.set_cons_zero, List.set_cons_succ]
                  generalize W3 = W at *
                  refine wpAnyH_take (i := 7) (v := ?_) rfl (by kernel_rfl) (by kernel_rfl) (by kernel_rfl) (fun _ _ _ h => h) (Or.inl ⟨by rfl, ?_⟩) trivial ?_
                  rotate_left
                  · intro w hSw
                    go_simp
                    try (with_reducible rfl)
                  try simp only [Act.put, List.setIfInBounds_toArray, List.set_cons_zero, List.set_cons_succ]
                  refine wpAnyH_ready (rs := [9]) (by kernel_rfl) (by simp) (AllReadyH.cons rfl (fun K hK => ?_) AllReadyH.nil)
                  · obtain ⟨⟨e0, e1⟩, f0, f1⟩ := box2e HX.out
                    go_simp
                    refine hK.out _ _ trivial (fun _ => ?_)
                    clear hK K
                    try simp only [Act.put, List.setIfInBounds_toArray, List.set_cons_zero, List.set_cons_succ]
                    refine wpAnyH_done (by kernel_rfl) ?_ _
                    go_wp2_with fail
                    go_meet
                    exact ⟨bx, tA, tC, rfl, ⟨box_set2 HX.out, HXB.out, htA, Nat.le_of_lt htC, (HD.out.set HXB.out.1 HXB.out.2 0 _).set HXB.out.1 HXB.out.2 1 _⟩⟩
              · go_simp
                refine (cTextV ⟨#[97, 98, 60, 38, 34, 62, 32, 49]⟩ 4 w0 a len cap b _ (by omega) (by omega) (by decide) (by decide) (by decide) hlen HR.out HD.out.cur).mono ?_
                rintro e W3 ⟨tC, rfl, htC, hC, hG⟩
                replace HT := hid ((hG.block tb (lt_of_heap HT.out) (fun e => HTB.out (Option.some.inj e))).trans HT.out)
                replace HX := hid ((hG.block bx (lt_of_heap HX.out) (fun e => by have := HXB.out.1; have := HD.out.lt; have := Option.some.inj e; omega)).trans HX.out)
                replace HD := hid (HD.out.draw hC hG)
                clear hC hG
                go_wp2_with fail
                refine hK.out _ _ trivial (fun _ => ?_)
                clear hK K
                try simp only [Act.put, List.setIfInBounds_toArray, List.set_cons_zero, List.set_cons_succ]
                generalize W3 = W at *
                refine wpAnyH_ready (rs := [4]) (by kernel_rfl) (by simp) (AllReadyH.cons rfl (fun K hK => ?_) AllReadyH.nil)
                · obtain ⟨tA, hcA, htA⟩ := tabA_at _ tb x hx HT.out
                  go_simp
                  refine hK.out _ _ trivial (fun _ => ?_)
                  clear hK K
                  try simp only [Act.put, List.setIfInBounds_toArray, List.set_cons_zero, List.set_cons_succ]
                  clear hcA
                  refine wpAnyH_take (i := 7) (v := ?_) rfl (by kernel_rfl) (by kernel_rfl) (by kernel_rfl) (fun _ _ _ h => h) (Or.inl ⟨by rfl, ?_⟩) trivial ?_
                  rotate_left
                  · intro w hSw
                    go_simp
                    try (with_reducible rfl)
                  try simp only [Act.put, List.setIfInBounds_toArray, List.set_cons_zero, List.set_cons_succ]
                  refine wpAnyH_ready (rs := [9]) (by kernel_rfl) (by simp) (AllReadyH.cons rfl (fun K hK => ?_) AllReadyH.nil)
                  · obtain ⟨⟨e0, e1⟩, f0, f1⟩ := box2e HX.out
                    go_simp
                    refine hK.out _ _ trivial (fun _ => ?_)
                    clear hK K
                    try simp only [Act.put, List.setIfInBounds_toArray, List.set_cons_zero, List.set_cons_succ]
                    refine wpAnyH_done (by kernel_rfl) ?_ _
                    go_wp2_with fail
                    go_meet
                    exact ⟨bx, tA, tC, rfl, ⟨box_set2 HX.out, HXB.out, htA, Nat.le_of_lt htC, (HD.out.set HXB.out.1 HXB.out.2 0 _).set HXB.out.1 HXB.out.2 1 _⟩⟩
          · go_simp
            refine (cTextV ⟨#[97, 98, 60, 38, 34, 62, 32, 49]⟩ 4 w0 a len cap b _ (by omega) (by omega) (by decide) (by decide) (by decide) hlen HR.out HD.out.cur).mono ?_
            rintro e W3 ⟨tC, rfl, htC, hC, hG⟩
            replace HD := hid (HD.out.draw hC hG)
            clear hC hG
            go_wp2_with fail
            refine hK.out _ _ trivial (fun _ => ?_)
            clear hK K
            try simp only [Act.put, List.setIfInBounds_toArray, List.set_cons_zero, List.set_cons_succ]
            generalize W3 = W at *
            refine wpAnyH_ready (rs := [0, 8]) (by kernel_rfl) (by simp) (AllReadyH.cons rfl (fun K hK => ?_) (AllReadyH.cons rfl (fun K hK => ?_) AllReadyH.nil))
            · have HTB := hid (show ¬ W.heap.size = b by have := HD.out.gr.size; have := HD.out.lt; omega)
              go_simp
              refine hK.out _ _ trivial (fun _ => ?_)
              clear hK K
              try simp only [Act.put, List.setIfInBounds_toArray, List.set_cons_zero, List.set_cons_succ]
              have HT := hid (heap_alloc_new W (.cells #[.string ⟨#[97]⟩, .string ⟨#[120]⟩, .string ⟨#[112, 58, 97]⟩, .string ⟨#[113, 58, 97]⟩, .string ⟨#[112, 58, 120]⟩, .string ⟨#[110, 115]⟩, .string ⟨#[110, 115, 58, 112]⟩, .string ⟨#[73, 100]⟩] 9))
              replace HD := hid (HD.out.alloc (.cells #[.string ⟨#[97]⟩, .string ⟨#[120]⟩, .string ⟨#[112, 58, 97]⟩, .string ⟨#[113, 58, 97]⟩, .string ⟨#[112, 58, 120]⟩, .string ⟨#[110, 115]⟩, .string ⟨#[110, 115, 58, 112]⟩, .string ⟨#[73, 100]⟩] 9))
              generalize W.heap.size = tb at *
              generalize W.alloc (.cells #[.string ⟨#[97]⟩, .string ⟨#[120]⟩, .string ⟨#[112, 58, 97]⟩, .string ⟨#[113, 58, 97]⟩, .string ⟨#[112, 58, 120]⟩, .string ⟨#[110, 115]⟩, .string ⟨#[110, 115, 58, 112]⟩, .string ⟨#[73, 100]⟩] 9) = W at *
              refine wpAnyH_take (i := 3) (v := ?_) rfl (by kernel_rfl) (by kernel_rfl) (by kernel_rfl) (fun _ _ _ h => h) (Or.inl ⟨by rfl, ?_⟩) trivial ?_
              rotate_left
              · intro w hSw
                go_simp
                try (with_reducible rfl)
              try simp only [Act.put, List.setIfInBounds_toArray, List.set_cons_zero, List.set_cons_succ]
              refine wpAnyH_ready (rs := [4, 8]) (by kernel_rfl) (by simp) (AllReadyH.cons rfl (fun K hK => ?_) (AllReadyH.cons rfl (fun K hK => ?_) AllReadyH.nil))
              · obtain ⟨tA, hcA, htA⟩ := tabA_at _ tb x hx HT.out
                go_simp
                refine hK.out _ _ trivial (fun _ => ?_)
                clear hK K
                try simp only [Act.put, List.setIfInBounds_toArray, List.set_cons_zero, List.set_cons_succ]
                clear hcA
                refine wpAnyH_take (i := 7) (v := ?_) rfl (by kernel_rfl) (by kernel_rfl) (by kernel_rfl) (fun _ _ _ h => h) (Or.inl ⟨by rfl, ?_⟩) trivial ?_
                rotate_left
                · intro w hSw
                  go_simp
                  try (with_reducible rfl)
                try simp only [Act.put, List.setIfInBounds_toArray, List.set_cons_zero, List.set_cons_succ]
                refine wpAnyH_ready (rs := [8]) (by kernel_rfl) (by simp) (AllReadyH.cons rfl (fun K hK => ?_) AllReadyH.nil)
                · have HXB := hid (show w.heap.size ≤ W.heap.size ∧ ¬ v.ownBlock = some W.heap.size from ⟨HD.out.gr.size, fun e => by have := (HD.out.own.lt _ e).2; omega⟩)
                  go_simp
                  refine hK.out _ _ trivial (fun _ => ?_)
                  clear hK K
                  try simp only [Act.put, List.setIfInBounds_toArray, List.set_cons_zero, List.set_cons_succ]
                  have HX := hid (heap_alloc_new W (.cells #[.string ⟨#[]⟩, .string ⟨#[]⟩] 114))
                  replace HD := hid (HD.out.alloc (.cells #[.string ⟨#[]⟩, .string ⟨#[]⟩] 114))
                  replace HT := hid (blk_alloc HT.out (.cells #[.string ⟨#[]⟩, .string ⟨#[]⟩] 114))
                  generalize W.heap.size = bx at *
                  generalize W.alloc (.cells #[.string ⟨#[]⟩, .string ⟨#[]⟩] 114) = W at *
                  refine wpAnyH_ready (rs := [9]) (by kernel_rfl) (by simp) (AllReadyH.cons rfl (fun K hK => ?_) AllReadyH.nil)
                  · obtain ⟨⟨e0, e1⟩, f0, f1⟩ := box2e HX.out
                    go_simp
                    refine hK.out _ _ trivial (fun _ => ?_)
                    clear hK K
                    try simp only [Act.put, List.setIfInBounds_toArray, List.set_cons_zero, List.set_cons_succ]
                    refine wpAnyH_done (by kernel_rfl) ?_ _
                    go_wp2_with fail
                    go_meet
                    exact ⟨bx, tA, tC, rfl, ⟨box_set2 HX.out, HXB.out, htA, Nat.le_of_lt htC, (HD.out.set HXB.out.1 HXB.out.2 0 _).set HXB.out.1 HXB.out.2 1 _⟩⟩
              · have HXB := hid (show w.heap.size ≤ W.heap.size ∧ ¬ v.ownBlock = some W.heap.size from ⟨HD.out.gr.size, fun e => by have := (HD.out.own.lt _ e).2; omega⟩)
                go_simp
                refine hK.out _ _ trivial (fun _ => ?_)
                clear hK K
                try simp only [Act.put, List.setIfInBounds_toArray, List.set_cons_zero, List.set_cons_succ]
                have HX := hid (heap_alloc_new W (.cells #[.string ⟨#[]⟩, .string ⟨#[]⟩] 114))
                replace HD := hid (HD.out.alloc (.cells #[.string ⟨#[]⟩, .string ⟨#[]⟩] 114))
                replace HT := hid (blk_alloc HT.out (.cells #[.string ⟨#[]⟩, .string ⟨#[]⟩] 114))
                generalize W.heap.size = bx at *
                generalize W.alloc (.cells #[.string ⟨#[]⟩, .string ⟨#[]⟩] 114) = W at *
                refine wpAnyH_ready (rs := [4]) (by kernel_rfl) (by simp) (AllReadyH.cons rfl (fun K hK => ?_) AllReadyH.nil)
                · obtain ⟨tA, hcA, htA⟩ := tabA_at _ tb x hx HT.out
                  go_simp
                  refine hK.out _ _ trivial (fun _ => ?_)
                  clear hK K
                  try simp only [Act.put, List.setIfInBounds_toArray, List.set_cons_zero, List.set_cons_succ]
                  clear hcA
                  refine wpAnyH_take (i := 7) (v := ?_) rfl (by kernel_rfl) (by kernel_rfl) (by kernel_rfl) (fun _ _ _ h => h) (Or.inl ⟨by rfl, ?_⟩) trivial ?_
                  rotate_left
                  · intro w hSw
                    go_simp
                    try (with_reducible rfl)
                  try simp only [Act.put, List.setIfInBounds_toArray, List.set_cons_zero, List.set_cons_succ]
                  refine wpAnyH_ready (rs := [9]) (by kernel_rfl) (by simp) (AllReadyH.cons rfl (fun K hK => ?_) AllReadyH.nil)
                  · obtain ⟨⟨e0, e1⟩, f0, f1⟩ := box2e HX.out
                    go_simp
                    refine hK.out _ _ trivial (fun _ => ?_)
                    clear hK K
                    try simp only [Act.put, List.setIfInBounds_toArray, List.set_cons_zero, List.set_cons_succ]
                    refine wpAnyH_done (by kernel_rfl) ?_ _
                    go_wp2_with fail
                    go_meet
                    exact ⟨bx, tA, tC, rfl, ⟨box_set2 HX.out, HXB.out, htA, Nat.le_of_lt htC, (HD.out.set HXB.out.1 HXB.out.2 0 _).set HXB.out.1 HXB.out.2 1 _⟩⟩
            · have HXB := hid (show w.heap.size ≤ W.heap.size ∧ ¬ v.ownBlock = some W.heap.size from ⟨HD.out.gr.size, fun e => by have := (HD.out.own.lt _ e).2; omega⟩)
              go_simp
              refine hK.out _ _ trivial (fun _ => ?_)
              clear hK K
              try simp only [Act.put, List.setIfInBounds_toArray, List.set_cons_zero, List.set_cons_succ]
              have HX := hid (heap_alloc_new W (.cells #[.string ⟨#[]⟩, .string ⟨#[]⟩] 114))
              replace HD := hid (HD.out.alloc (.cells #[.string ⟨#[]⟩, .string ⟨#[]⟩] 114))
              generalize W.heap.size = bx at *
              generalize W.alloc (.cells #[.string ⟨#[]⟩, .string ⟨#[]⟩] 114) = W at *
              refine wpAnyH_ready (rs := [0]) (by kernel_rfl) (by simp) (AllReadyH.cons rfl (fun K hK => ?_) AllReadyH.nil)
              · have HTB := hid (show ¬ W.heap.size = b by have := HD.out.gr.size; have := HD.out.lt; omega)
                go_simp
                refine hK.out _ _ trivial (fun _ => ?_)
                clear hK K
                try simp only [Act.put, List.setIfInBounds_toArray, List.set_cons_zero, List.set_cons_succ]
                have HT := hid (heap_alloc_new W (.cells #[.string ⟨#[97]⟩, .string ⟨#[120]⟩, .string ⟨#[112, 58, 97]⟩, .string ⟨#[113, 58, 97]⟩, .string ⟨#[112, 58, 120]⟩, .string ⟨#[110, 115]⟩, .string ⟨#[110, 115, 58, 112]⟩, .string ⟨#[73, 100]⟩] 9))
                replace HD := hid (HD.out.alloc (.cells #[.string ⟨#[97]⟩, .string ⟨#[120]⟩, .string ⟨#[112, 58, 97]⟩, .string ⟨#[113, 58, 97]⟩, .string ⟨#[112, 58, 120]⟩, .string ⟨#[110, 115]⟩, .string ⟨#[110, 115, 58, 112]⟩, .string ⟨#[73, 100]⟩] 9))
                replace HX := hid (blk_alloc HX.out (.cells #[.string ⟨#[97]⟩, .string ⟨#[120]⟩, .string ⟨#[112, 58, 97]⟩, .string ⟨#[113, 58, 97]⟩, .string ⟨#[112, 58, 120]⟩, .string ⟨#[110, 115]⟩, .string ⟨#[110, 115, 58, 112]⟩, .string ⟨#[73, 100]⟩] 9))
                generalize W.heap.size = tb at *
                generalize W.alloc (.cells #[.string ⟨#[97]⟩, .string ⟨#[120]⟩, .string ⟨#[112, 58, 97]⟩, .string ⟨#[113, 58, 97]⟩, .string ⟨#[112, 58, 120]⟩, .string ⟨#[110, 115]⟩, .string ⟨#[110, 115, 58, 112]⟩, .string ⟨#[73, 100]⟩] 9) = W at *
                refine wpAnyH_take (i := 3) (v := ?_) rfl (by kernel_rfl) (by kernel_rfl) (by kernel_rfl) (fun _ _ _ h => h) (Or.inl ⟨by rfl, ?_⟩) trivial ?_
                rotate_left
                · intro w hSw
                  go_simp
                  try (with_reducible rfl)
                try simp only [Act.put, List.setIfInBounds_toArray, List.set_cons_zero, List.set_cons_succ]
                refine wpAnyH_ready (rs := [4]) (by kernel_rfl) (by simp) (AllReadyH.cons rfl (fun K hK => ?_) AllReadyH.nil)
                · obtain ⟨tA, hcA, htA⟩ := tabA_at _ tb x hx HT.out
                  go_simp
                  refine hK.out _ _ trivial (fun _ => ?_)
                  clear hK K
                  try simp only [Act.put, List.setIfInBounds_toArray, List.set_cons_zero, List.set_cons_succ]
                  clear hcA
                  refine wpAnyH_take (i := 7) (v := ?_) rfl (by kernel_rfl) (by kernel_rfl) (by kernel_rfl) (fun _ _ _ h => h) (Or.inl ⟨by rfl, ?_⟩) trivial ?_
                  rotate_left
                  · intro w hSw
                    go_simp
                    try (with_reducible rfl)
                  try simp only [Act.put, List.setIfInBounds_toArray, List.set_cons_zero, List.set_cons_succ]
                  refine wpAnyH_ready (rs := [9]) (by kernel_rfl) (by simp) (AllReadyH.cons rfl (fun K hK => ?_) AllReadyH.nil)
                  · obtain ⟨⟨e0, e1⟩, f0, f1⟩ := box2e HX.out
                    go_simp
                    refine hK.out _ _ trivial (fun _ => ?_)
                    clear hK K
                    try simp only [Act.put, List.setIfInBounds_toArray, List.set_cons_zero, List.set_cons_succ]
                    refine wpAnyH_done (by kernel_rfl) ?_ _
                    go_wp2_with fail
                    go_meet
                    exact ⟨bx, tA, tC, rfl, ⟨box_set2 HX.out, HXB.out, htA, Nat.le_of_lt htC, (HD.out.set HXB.out.1 HXB.out.2 0 _).set HXB.out.1 HXB.out.2 1 _⟩⟩
          · have HXB := hid (show w.heap.size ≤ W.heap.size ∧ ¬ v.ownBlock = some W.heap.size from ⟨HD.out.gr.size, fun e => by have := (HD.out.own.lt _ e).2; omega⟩)
            go_simp
            refine hK.out _ _ trivial (fun _ => ?_)
            clear hK K
            try simp only [Act.put, List.setIfInBounds_toArray, List.set_cons_zero, List.set_cons_succ]
            have HX := hid (heap_alloc_new W (.cells #[.string ⟨#[]⟩, .string ⟨#[]⟩] 114))
            replace HD := hid (HD.out.alloc (.cells #[.string ⟨#[]⟩, .string ⟨#[]⟩] 114))
            generalize W.heap.size = bx at *
            generalize W.alloc (.cells #[.string ⟨#[]⟩, .string ⟨#[]⟩] 114) = W at *
            refine wpAnyH_ready (rs := [0, 6]) (by kernel_rfl) (by simp) (AllReadyH.cons rfl (fun K hK => ?_) (AllReadyH.cons rfl (fun K hK => ?_) AllReadyH.nil))
            · have HTB := hid (show ¬ W.heap.size = b by have := HD.out.gr.size; have := HD.out.lt; omega)
              go_simp
              refine hK.out _ _ trivial (fun _ => ?_)
              clear hK K
              try simp only [Act.put, List.setIfInBounds_toArray, List.set_cons_zero, List.set_cons_succ]
              have HT := hid (heap_alloc_new W (.cells #[.string ⟨#[97]⟩, .string ⟨#[120]⟩, .string ⟨#[112, 58, 97]⟩, .string ⟨#[113, 58, 97]⟩, .string ⟨#[112, 58, 120]⟩, .string ⟨#[110, 115]⟩, .string ⟨#[110, 115, 58, 112]⟩, .string ⟨#[73, 100]⟩] 9))
              replace HD := hid (HD.out.alloc (.cells #[.string ⟨#[97]⟩, .string ⟨#[120]⟩, .string ⟨#[112, 58, 97]⟩, .string ⟨#[113, 58, 97]⟩, .string ⟨#[112, 58, 120]⟩, .string ⟨#[110, 115]⟩, .string ⟨#[110, 115, 58, 112]⟩, .string ⟨#[73, 100]⟩] 9))
              replace HX := hid (blk_alloc HX.out (.cells #[.string ⟨#[97]⟩, .string ⟨#[120]⟩, .string ⟨#[112, 58, 97]⟩, .string ⟨#[113, 58, 97]⟩, .string ⟨#[112, 58, 120]⟩, .string ⟨#[110, 115]⟩, .string ⟨#[110, 115, 58, 112]⟩, .string ⟨#[73, 100]⟩] 9))
              generalize W.heap.size = tb at *
              generalize W.alloc (.cells #[.string ⟨#[97]⟩, .string ⟨#[120]⟩, .string ⟨#[112, 58, 97]⟩, .string ⟨#[113, 58, 97]⟩, .string ⟨#[112, 58, 120]⟩, .string ⟨#[110, 115]⟩, .string ⟨#[110, 115, 58, 112]⟩, .string ⟨#[73, 100]⟩] 9) = W at *
              refine wpAnyH_take (i := 3) (v := ?_) rfl (by kernel_rfl) (by kernel_rfl) (by kernel_rfl) (fun _ _ _ h => h) (Or.inl ⟨by rfl, ?_⟩) trivial ?_
              rotate_left
              · intro w hSw
                go_simp
                try (with_reducible rfl)
              try simp only [Act.put, List.setIfInBounds_toArray, List.set_cons_zero, List.set_cons_succ]
              refine wpAnyH_ready (rs := [4, 6]) (by kernel_rfl) (by simp) (AllReadyH.cons rfl (fun K hK => ?_) (AllReadyH.cons rfl (fun K hK => ?_) AllReadyH.nil))
              · obtain ⟨tA, hcA, htA⟩ := tabA_at _ tb x hx HT.out
                go_simp
                refine hK.out _ _ trivial (fun _ => ?_)
                clear hK K
                try simp only [Act.put, List.setIfInBounds_toArray, List.set_cons_zero, List.set_cons_succ]
                clear hcA
                refine wpAnyH_ready (rs := [6]) (by kernel_rfl) (by simp) (AllReadyH.cons rfl (fun K hK => ?_) AllReadyH.nil)
                · go_simp
                  refine (cTextV ⟨#[97, 98, 60, 38, 34, 62, 32, 49]⟩ 4 w0 a len cap b _ (by omega) (by omega) (by decide) (by decide) (by decide) hlen HR.out HD.out.cur).mono ?_
                  rintro e W3 ⟨tC, rfl, htC, hC, hG⟩
                  replace HT := hid ((hG.block tb (lt_of_heap HT.out) (fun e => HTB.out (Option.some.inj e))).trans HT.out)
                  replace HX := hid ((hG.block bx (lt_of_heap HX.out) (fun e => by have := HXB.out.1; have := HD.out.lt; have := Option.some.inj e; omega)).trans HX.out)
                  replace HD := hid (HD.out.draw hC hG)
                  clear hC hG
                  go_wp2_with fail
                  refine hK.out _ _ trivial (fun _ => ?_)
                  clear hK K
                  try simp only [Act.put, List.setIfInBounds_toArray, List.set_cons_zero, List.set_cons_succ]
                  generalize W3 = W at *
                  refine wpAnyH_take (i := 7) (v := ?_) rfl (by kernel_rfl) (by kernel_rfl) (by kernel_rfl) (fun _ _ _ h => h) (Or.inl ⟨by rfl, ?_⟩) trivial ?_
                  rotate_left
                  · intro w hSw
                    go_simp
                    try (with_reducible rfl)
                  try simp only [Act.put, List.setIfInBounds_toArray, List.set_cons_zero, List.set_cons_succ]
                  refine wpAnyH_ready (rs := [9]) (by kernel_rfl) (by simp) (AllReadyH.cons rfl (fun K hK => ?_) AllReadyH.nil)
                  · obtain ⟨⟨e0, e1⟩, f0, f1⟩ := box2e HX.out
                    go_simp
                    refine hK.out _ _ trivial (fun _ => ?_)
                    clear hK K
                    try simp only [Act.put, List.setIfInBounds_toArray, List.set_cons_zero, List.set_cons_succ]
                    refine wpAnyH_done (by kernel_rfl) ?_ _
                    go_wp2_with fail
                    go_meet
                    exact ⟨bx, tA, tC, rfl, ⟨box_set2 HX.out, HXB.out, htA, Nat.le_of_lt htC, (HD.out.set HXB.out.1 HXB.out.2 0 _).set HXB.out.1 HXB.out.2 1 _⟩⟩
              · go_simp
                refine (cTextV ⟨#[97, 98, 60, 38, 34, 62, 32, 49]⟩ 4 w0 a len cap b _ (by omega) (by omega) (by decide) (by decide) (by decide) hlen HR.out HD.out.cur).mono ?_
                rintro e W3 ⟨tC, rfl, htC, hC, hG⟩
                replace HT := hid ((hG.block tb (lt_of_heap HT.out) (fun e => HTB.out (Option.some.inj e))).trans HT.out)
                replace HX := hid ((hG.block bx (lt_of_heap HX.out) (fun e => by have := HXB.out.1; have := HD.out.lt; have := Option.some.inj e; omega)).trans HX.out)
                replace HD := hid (HD.out.draw hC hG)
                clear hC hG
                go_wp2_with fail
                refine hK.out _ _ trivial (fun _ => ?_)
                clear hK K
                try simp only [Act.put, List.setIfInBounds_toArray, List.set_cons_zero, List.set_cons_succ]
                generalize W3 = W at *
                refine wpAnyH_ready (rs := [4]) (by kernel_rfl) (by simp) (AllReadyH.cons rfl (fun K hK => ?_) AllReadyH.nil)
                · obtain ⟨tA, hcA, htA⟩ := tabA_at _ tb x hx HT.out
                  go_simp
                  refine hK.out _ _ trivial (fun _ => ?_)
                  clear hK K
                  try simp only [Act.put, List.setIfInBounds_toArray, List.set_cons_zero, List.set_cons_succ]
                  clear hcA
                  refine wpAnyH_take (i := 7) (v := ?_) rfl (by kernel_rfl) (by kernel_rfl) (by kernel_rfl) (fun _ _ _ h => h) (Or.inl ⟨by rfl, ?_⟩) trivial ?_
                  rotate_left
                  · intro w hSw
                    go_simp
                    try (with_reducible rfl)
                  try simp only [Act.put, List.setIfInBounds_toArray, List.set_cons_zero, List.set_cons_succ]
                  refine wpAnyH_ready (rs := [9]) (by kernel_rfl) (by simp) (AllReadyH.cons rfl (fun K hK => ?_) AllReadyH.nil)
                  · obtain ⟨⟨e0, e1⟩, f0, f1⟩ := box2e HX.out
                    go_simp
                    refine hK.out _ _ trivial (fun _ => ?_)
                    clear hK K
                    try simp only [Act.put, List.setIfInBounds_toArray, List.set_cons_zero, List.set_cons_succ]
                    refine wpAnyH_done (by kernel_rfl) ?_ _
                    go_wp2_with fail
                    go_meet
                    exact ⟨bx, tA, tC, rfl, ⟨box_set2 HX.out, HXB.out, htA, Nat.le_of_lt htC, (HD.out.set HXB.out.1 HXB.out.2 0 _).set HXB.out.1 HXB.out.2 1 _⟩⟩
            · go_simp
              refine (cTextV ⟨#[97, 98, 60, 38, 34, 62, 32, 49]⟩ 4 w0 a len cap b _ (by omega) (by omega) (by decide) (by decide) (by decide) hlen HR.out HD.out.cur).mono ?_
              rintro e W3 ⟨tC, rfl, htC, hC, hG⟩
              replace HX := hid ((hG.block bx (lt_of_heap HX.out) (fun e => by have := HXB.out.1; have := HD.out.lt; have := Option.some.inj e; omega)).trans HX.out)
              replace HD := hid (HD.out.draw hC hG)
              clear hC hG
              go_wp2_with fail
              refine hK.out _ _ trivial (fun _ => ?_)
              clear hK K
              try simp only [Act.put, List.setIfInBounds_toArray, List.set_cons_zero, List.set_cons_succ]
              generalize W3 = W at *
              refine wpAnyH_ready (rs := [0]) (by kernel_rfl) (by simp) (AllReadyH.cons rfl (fun K hK => ?_) AllReadyH.nil)
              · have HTB := hid (show ¬ W.heap.size = b by have := HD.out.gr.size; have := HD.out.lt; omega)
                go_simp
                refine hK.out _ _ trivial (fun _ => ?_)
                clear hK K
                try simp only [Act.put, List.setIfInBounds_toArray, List.set_cons_zero, List.set_cons_succ]
                have HT := hid (heap_alloc_new W (.cells #[.string ⟨#[97]⟩, .string ⟨#[120]⟩, .string ⟨#[112, 58, 97]⟩, .string ⟨#[113, 58, 97]⟩, .string ⟨#[112, 58, 120]⟩, .string ⟨#[110, 115]⟩, .string ⟨#[110, 115, 58, 112]⟩, .string ⟨#[73, 100]⟩] 9))
                replace HD := hid (HD.out.alloc (.cells #[.string ⟨#[97]⟩, .string ⟨#[120]⟩, .string ⟨#[112, 58, 97]⟩, .string ⟨#[113, 58, 97]⟩, .string ⟨#[112, 58, 120]⟩, .string ⟨#[110, 115]⟩, .string ⟨#[110, 115, 58, 112]⟩, .string ⟨#[73, 100]⟩] 9))
                replace HX := hid (blk_alloc HX.out (.cells #[.string ⟨#[97]⟩, .string ⟨#[120]⟩, .string ⟨#[112, 58, 97]⟩, .string ⟨#[113, 58, 97]⟩, .string ⟨#[112, 58, 120]⟩, .string ⟨#[110, 115]⟩, .string ⟨#[110, 115, 58, 112]⟩, .string ⟨#[73, 100]⟩] 9))
                generalize W.heap.size = tb at *
                generalize W.alloc (.cells #[.string ⟨#[97]⟩, .string ⟨#[120]⟩, .string ⟨#[112, 58, 97]⟩, .string ⟨#[113, 58, 97]⟩, .string ⟨#[112, 58, 120]⟩, .string ⟨#[110, 115]⟩, .string ⟨#[110, 115, 58, 112]⟩, .string ⟨#[73, 100]⟩] 9) = W at *
                refine wpAnyH_take (i := 3) (v := ?_) rfl (by kernel_rfl) (by kernel_rfl) (by kernel_rfl) (fun _ _ _ h => h) (Or.inl ⟨by rfl, ?_⟩) trivial ?_
                rotate_left
                · intro w hSw
                  go_simp
                  try (with_reducible rfl)
                try simp only [Act.put, List.setIfInBounds_toArray, List.set_cons_zero, List.set_cons_succ]
                refine wpAnyH_ready (rs := [4]) (by kernel_rfl) (by simp) (AllReadyH.cons rfl (fun K hK => ?_) AllReadyH.nil)
                · obtain ⟨tA, hcA, htA⟩ := tabA_at _ tb x hx HT.out
                  go_simp
                  refine hK.out _ _ trivial (fun _ => ?_)
                  clear hK K
                  try simp only [Act.put, List.setIfInBounds_toArray, List.set_cons_zero, List.set_cons_succ]
                  clear hcA
                  refine wpAnyH_take (i := 7) (v := ?_) rfl (by kernel_rfl) (by kernel_rfl) (by kernel_rfl) (fun _ _ _ h => h) (Or.inl ⟨by rfl, ?_⟩) trivial ?_
                  rotate_left
                  · intro w hSw
                    go_simp
                    try (with_reducible rfl)
                  try simp only [Act.put, List.setIfInBounds_toArray, List.set_cons_zero, List.set_cons_succ]
                  refine wpAnyH_ready (rs := [9]) (by kernel_rfl) (by simp) (AllReadyH.cons rfl (fun K hK => ?_) AllReadyH.nil)
                  · obtain ⟨⟨e0, e1⟩, f0, f1⟩ := box2e HX.out
                    go_simp
                    refine hK.out _ _ trivial (fun _ => ?_)
                    clear hK K
                    try simp only [Act.put, List.setIfInBounds_toArray, List.set_cons_zero, List.set_cons_succ]
                    refine wpAnyH_done (by kernel_rfl) ?_ _
                    go_wp2_with fail
                    go_meet
                    exact ⟨bx, tA, tC, rfl, ⟨box_set2 HX.out, HXB.out, htA, Nat.le_of_lt htC, (HD.out.set HXB.out.1 HXB.out.2 0 _).set HXB.out.1 HXB.out.2 1 _⟩⟩
        · have HXB := hid (show w.heap.size ≤ W.heap.size ∧ ¬ v.ownBlock = some W.heap.size from ⟨HD.out.gr.size, fun e => by have := (HD.out.own.lt _ e).2; omega⟩)
          go_simp
          refine hK.out _ _ trivial (fun _ => ?_)
          clear hK K
          try simp only [Act.put, List.setIfInBounds_toArray, List.set_cons_zero, List.set_cons_succ]
          have HX := hid (heap_alloc_new W (.cells #[.string ⟨#[]⟩, .string ⟨#[]⟩] 114))
          replace HD := hid (HD.out.alloc (.cells #[.string ⟨#[]⟩, .string ⟨#[]⟩] 114))
          generalize W.heap.size = bx at *
          generalize W.alloc (.cells #[.string ⟨#[]⟩, .string ⟨#[]⟩] 114) = W at *
          refine wpAnyH_ready (rs := [0, 2]) (by kernel_rfl) (by simp) (AllReadyH.cons rfl (fun K hK => ?_) (AllReadyH.cons rfl (fun K hK => ?_) AllReadyH.nil))
          · have HTB := hid (show ¬ W.heap.size = b by have := HD.out.gr.size; have := HD.out.lt; omega)
            go_simp
            refine hK.out _ _ trivial (fun _ => ?_)
            clear hK K
            try simp only [Act.put, List.setIfInBounds_toArray, List.set_cons_zero, List.set_cons_succ]
            have HT := hid (heap_alloc_new W (.cells #[.string ⟨#[97]⟩, .string ⟨#[120]⟩, .string ⟨#[112, 58, 97]⟩, .string ⟨#[113, 58, 97]⟩, .string ⟨#[112, 58, 120]⟩, .string ⟨#[110, 115]⟩, .string ⟨#[110, 115, 58, 112]⟩, .string ⟨#[73, 100]⟩] 9))
            replace HD := hid (HD.out.alloc (.cells #[.string ⟨#[97]⟩, .string ⟨#[120]⟩, .string ⟨#[112, 58, 97]⟩, .string ⟨#[113, 58, 97]⟩, .string ⟨#[112, 58, 120]⟩, .string ⟨#[110, 115]⟩, .string ⟨#[110, 115, 58, 112]⟩, .string ⟨#[73, 100]⟩] 9))
            replace HX := hid (blk_alloc HX.out (.cells #[.string ⟨#[97]⟩, .string ⟨#[120]⟩, .string ⟨#[112, 58, 97]⟩, .string ⟨#[113, 58, 97]⟩, .string ⟨#[112, 58, 120]⟩, .string ⟨#[110, 115]⟩, .string ⟨#[110, 115, 58, 112]⟩, .string ⟨#[73, 100]⟩] 9))
            generalize W.heap.size = tb at *
            generalize W.alloc (.cells #[.string ⟨#[97]⟩, .string ⟨#[120]⟩, .string ⟨#[112, 58, 97]⟩, .string ⟨#[113, 58, 97]⟩, .string ⟨#[112, 58, 120]⟩, .string ⟨#[110, 115]⟩, .string ⟨#[110, 115, 58, 112]⟩, .string ⟨#[73, 100]⟩] 9) = W at *
            refine wpAnyH_ready (rs := [2]) (by kernel_rfl) (by simp) (AllReadyH.cons rfl (fun K hK => ?_) AllReadyH.nil)
            · go_simp
              refine (cBelow 8 w0 a len cap b _ hlen HR.out HD.out.cur (by omega) (by omega)).mono ?_
              rintro e W2 ⟨x, rfl, hx, hC, hG⟩
              replace HT := hid ((hG.block tb (lt_of_heap HT.out) (fun e => HTB.out (Option.some.inj e))).trans HT.out)
              replace HX := hid ((hG.block bx (lt_of_heap HX.out) (fun e => by have := HXB.out.1; have := HD.out.lt; have := Option.some.inj e; omega)).trans HX.out)
              replace HD := hid (HD.out.draw hC hG)
              have hx8 : (x : Int) < 8 := by omega
              clear hC hG
              go_wp2_with fail
              refine hK.out _ _ trivial (fun _ => ?_)
              clear hK K
              try simp only [Act.put, List.setIfInBounds_toArray, List.set_cons_zero, List.set_cons_succ]
              generalize W2 = W at *
              refine wpAnyH_take (i := 3) (v := ?_) rfl (by kernel_rfl) (by kernel_rfl) (by kernel_rfl) (fun _ _ _ h => h) (Or.inl ⟨by rfl, ?_⟩) trivial ?_
              rotate_left
              · intro w hSw
                go_simp
                try (with_reducible rfl)
              try simp only [Act.put, List.setIfInBounds_toArray, List.set_cons_zero, List.set_cons_succ]
              refine wpAnyH_ready (rs := [4, 6]) (by kernel_rfl) (by simp) (AllReadyH.cons rfl (fun K hK => ?_) (AllReadyH.cons rfl (fun K hK => ?_) AllReadyH.nil))
              · obtain ⟨tA, hcA, htA⟩ := tabA_at _ tb x hx HT.out
                go_simp
                refine hK.out _ _ trivial (fun _ => ?_)
                clear hK K
                try simp only [Act.put, List.setIfInBounds_toArray, List.set_cons_zero, List.set_cons_succ]
                clear hcA
                refine wpAnyH_ready (rs := [6]) (by kernel_rfl) (by simp) (AllReadyH.cons rfl (fun K hK => ?_) AllReadyH.nil)
                · go_simp
                  refine (cTextV ⟨#[97, 98, 60, 38, 34, 62, 32, 49]⟩ 4 w0 a len cap b _ (by omega) (by omega) (by decide) (by decide) (by decide) hlen HR.out HD.out.cur).mono ?_
                  rintro e W3 ⟨tC, rfl, htC, hC, hG⟩
                  replace HT := hid ((hG.block tb (lt_of_heap HT.out) (fun e => HTB.out (Option.some.inj e))).trans HT.out)
                  replace HX := hid ((hG.block bx (lt_of_heap HX.out) (fun e => by have := HXB.out.1; have := HD.out.lt; have := Option.some.inj e; omega)).trans HX.out)
                  replace HD := hid (HD.out.draw hC hG)
                  clear hC hG
                  go_wp2_with fail
                  refine hK.out _ _ trivial (fun _ => ?_)
                  clear hK K
                  try simp only [Act.put, List.setIfInBounds_toArray, List.set_cons_zero, List.set_cons_succ]
                  generalize W3 = W at *
                  refine wpAnyH_take (i := 7) (v := ?_) rfl (by kernel_rfl) (by kernel_rfl) (by kernel_rfl) (fun _ _ _ h => h) (Or.inl ⟨by rfl, ?_⟩) trivial ?_
                  rotate_left
                  · intro w hSw
                    go_simp
                    try (with_reducible rfl)
                  try simp only [Act.put, List.setIfInBounds_toArray, List.set_cons_zero, List.set_cons_succ]
                  refine wpAnyH_ready (rs := [9]) (by kernel_rfl) (by simp) (AllReadyH.cons rfl (fun K hK => ?_) AllReadyH.nil)
                  · obtain ⟨⟨e0, e1⟩, f0, f1⟩ := box2e HX.out
                    go_simp
                    refine hK.out _ _ trivial (fun _ => ?_)
                    clear hK K
                    try simp only [Act.put, List.setIfInBounds_toArray, List.set_cons_zero, List.set_cons_succ]
                    refine wpAnyH_done (by kernel_rfl) ?_ _
                    go_wp2_with fail
                    go_meet
                    exact ⟨bx, tA, tC, rfl, ⟨box_set2 HX.out, HXB.out, htA, Nat.le_of_lt htC, (HD.out.set HXB.out.1 HXB.out.2 0 _).set HXB.out.1 HXB.out.2 1 _⟩⟩
              · go_simp
                refine (cTextV ⟨#[97, 98, 60, 38, 34, 62, 32, 49]⟩ 4 w0 a len cap b _ (by omega) (by omega) (by decide) (by decide) (by decide) hlen HR.out HD.out.cur).mono ?_
                rintro e W3 ⟨tC, rfl, htC, hC, hG⟩
                replace HT := hid ((hG.block tb (lt_of_heap HT.out) (fun e => HTB.out (Option.some.inj e))).trans HT.out)
                replace HX := hid ((hG.block bx (lt_of_heap HX.out) (fun e => by have := HXB.out.1; have := HD.out.lt; have := Option.some.inj e; omega)).trans HX.out)
                replace HD := hid (HD.out.draw hC hG)
                clear hC hG
                go_wp2_with fail
                refine hK.out _ _ trivial (fun _ => ?_)
                clear hK K
                try simp only [Act.put, List.setIfInBounds_toArray, List.set_cons_zero, List.set_cons_succ]
                generalize W3 = W at *
                refine wpAnyH_ready (rs := [4]) (by kernel_rfl) (by simp) (AllReadyH.cons rfl (fun K hK => ?_) AllReadyH.nil)
                · obtain ⟨tA, hcA, htA⟩ := tabA_at _ tb x hx HT.out
                  go_simp
                  refine hK.out _ _ trivial (fun _ => ?_)
                  clear hK K
                  try simp only [Act.put, List.setIfInBounds_toArray, List.set_cons_zero, List.set_cons_succ]
                  clear hcA
                  refine wpAnyH_take (i := 7) (v := ?_) rfl (by kernel_rfl) (by kernel_rfl) (by kernel_rfl) (fun _ _ _ h => h) (Or.inl ⟨by rfl, ?_⟩) trivial ?_
                  rotate_left
                  · intro w hSw
                    go_simp
                    try (with_reducible rfl)
                  try simp only [Act.put, List.setIfInBounds_toArray, List.set_cons_zero, List.set_cons_succ]
                  refine wpAnyH_ready (rs := [9]) (by kernel_rfl) (by simp) (AllReadyH.cons rfl (fun K hK => ?_) AllReadyH.nil)
                  · obtain ⟨⟨e0, e1⟩, f0, f1⟩ := box2e HX.out
                    go_simp
                    refine hK.out _ _ trivial (fun _ => ?_)
                    clear hK K
                    try simp only [Act.put, List.setIfInBounds_toArray, List.set_cons_zero, List.set_cons_succ]
                    refine wpAnyH_done (by kernel_rfl) ?_ _
                    go_wp2_with fail
                    go_meet
                    exact ⟨bx, tA, tC, rfl, ⟨box_set2 HX.out, HXB.out, htA, Nat.le_of_lt htC, (HD.out.set HXB.out.1 HXB.out.2 0 _).set HXB.out.1 HXB.out.2 1 _⟩⟩
          · go_simp
            refine (cBelow 8 w0 a len cap b _ hlen HR.out HD.out.cur (by omega) (by omega)).mono ?_
            rintro e W2 ⟨x, rfl, hx, hC, hG⟩
            replace HX := hid ((hG.block bx (lt_of_heap HX.out) (fun e => by have := HXB.out.1; have := HD.out.lt; have := Option.some.inj e; omega)).trans HX.out)
            replace HD := hid (HD.out.draw hC hG)
            have hx8 : (x : Int) < 8 := by omega
            clear hC hG
            go_wp2_with fail
            refine hK.out _ _ trivial (fun _ => ?_)
            clear hK K
            try simp only [Act.put, List.setIfInBounds_toArray, List.set_cons_zero, List.set_cons_succ]
            generalize W2 = W at *
            refine wpAnyH_ready (rs := [0, 6]) (by kernel_rfl) (by simp) (AllReadyH.cons rfl (fun K hK => ?_) (AllReadyH.cons rfl (fun K hK => ?_) AllReadyH.nil))
            · have HTB := hid (show ¬ W.heap.size = b by have := HD.out.gr.size; have := HD.out.lt; omega)
              go_simp
              refine hK.out _ _ trivial (fun _ => ?_)
              clear hK K
              try simp only [Act.put, List.setIfInBounds_toArray, List.set_cons_zero, List.set_cons_succ]
              have HT := hid (heap_alloc_new W (.cells #[.string ⟨#[97]⟩, .string ⟨#[120]⟩, .string ⟨#[112, 58, 97]⟩, .string ⟨#[113, 58, 97]⟩, .string ⟨#[112, 58, 120]⟩, .string ⟨#[110, 115]⟩, .string ⟨#[110, 115, 58, 112]⟩, .string ⟨#[73, 100]⟩] 9))
              replace HD := hid (HD.out.alloc (.cells #[.string ⟨#[97]⟩, .string ⟨#[120]⟩, .string ⟨#[112, 58, 97]⟩, .string ⟨#[113, 58, 97]⟩, .string ⟨#[112, 58, 120]⟩, .string ⟨#[110, 115]⟩, .string ⟨#[110, 115, 58, 112]⟩, .string ⟨#[73, 100]⟩] 9))
              replace HX := hid (blk_alloc HX.out (.cells #[.string ⟨#[97]⟩, .string ⟨#[120]⟩, .string ⟨#[112, 58, 97]⟩, .string ⟨#[113, 58, 97]⟩, .string ⟨#[112, 58, 120]⟩, .string ⟨#[110, 115]⟩, .string ⟨#[110, 115, 58, 112]⟩, .string ⟨#[73, 100]⟩] 9))
              generalize W.heap.size = tb at *
              generalize W.alloc (.cells #[.string ⟨#[97]⟩, .string ⟨#[120]⟩, .string ⟨#[112, 58, 97]⟩, .string ⟨#[113, 58, 97]⟩, .string ⟨#[112, 58, 120]⟩, .string ⟨#[110, 115]⟩, .string ⟨#[110, 115, 58, 112]⟩, .string ⟨#[73, 100]⟩] 9) = W at *
              refine wpAnyH_take (i := 3) (v := ?_) rfl (by kernel_rfl) (by kernel_rfl) (by kernel_rfl) (fun _ _ _ h => h) (Or.inl ⟨by rfl, ?_⟩) trivial ?_
              rotate_left
              · intro w hSw
                go_simp
                try (with_reducible rfl)
              try simp only [Act.put, List.setIfInBounds_toArray, List.set_cons_zero, List.set_cons_succ]
              refine wpAnyH_ready (rs := [4, 6]) (by kernel_rfl) (by simp) (AllReadyH.cons rfl (fun K hK => ?_) (AllReadyH.cons rfl (fun K hK => ?_) AllReadyH.nil))
              · obtain ⟨tA, hcA, htA⟩ := tabA_at _ tb x hx HT.out
                go_simp
                refine hK.out _ _ trivial (fun _ => ?_)
                clear hK K
                try simp only [Act.put, List.setIfInBounds_toArray, List.set_cons_zero, List.set_cons_succ]
                clear hcA
                refine wpAnyH_ready (rs := [6]) (by kernel_rfl) (by simp) (AllReadyH.cons rfl (fun K hK => ?_) AllReadyH.nil)
                · go_simp
                  refine (cTextV ⟨#[97, 98, 60, 38, 34, 62, 32, 49]⟩ 4 w0 a len cap b _ (by omega) (by omega) (by decide) (by decide) (by decide) hlen HR.out HD.out.cur).mono ?_
                  rintro e W3 ⟨tC, rfl, htC, hC, hG⟩
                  replace HT := hid ((hG.block tb (lt_of_heap HT.out) (fun e => HTB.out (Option.some.inj e))).trans HT.out)
                  replace HX := hid ((hG.block bx (lt_of_heap HX.out) (fun e => by have := HXB.out.1; have := HD.out.lt; have := Option.some.inj e; omega)).trans HX.out)
                  replace HD := hid (HD.out.draw hC hG)
                  clear hC hG
                  go_wp2_with fail
                  refine hK.out _ _ trivial (fun _ => ?_)
                  clear hK K
                  try simp only [Act.put, List.setIfInBounds_toArray, List.set_cons_zero, List.set_cons_succ]
                  generalize W3 = W at *
                  refine wpAnyH_take (i := 7) (v := ?_) rfl (by kernel_rfl) (by kernel_rfl) (by kernel_rfl) (fun _ _ _ h => h) (Or.inl ⟨by rfl, ?_⟩) trivial ?_
                  rotate_left
                  · intro w hSw
                    go_simp
                    try (with_reducible rfl)
                  try simp only [Act.put, List.setIfInBounds_toArray, List.set_cons_zero, List.set_cons_succ]
                  refine wpAnyH_ready (rs := [9]) (by kernel_rfl) (by simp) (AllReadyH.cons rfl (fun K hK => ?_) AllReadyH.nil)
                  · obtain ⟨⟨e0, e1⟩, f0, f1⟩ := box2e HX.out
                    go_simp
                    refine hK.out _ _ trivial (fun _ => ?_)
                    clear hK K
                    try simp only [Act.put, List.setIfInBounds_toArray, List.set_cons_zero, List.set_cons_succ]
                    refine wpAnyH_done (by kernel_rfl) ?_ _
                    go_wp2_with fail
                    go_meet
                    exact ⟨bx, tA, tC, rfl, ⟨box_set2 HX.out, HXB.out, htA, Nat.le_of_lt htC, (HD.out.set HXB.out.1 HXB.out.2 0 _).set HXB.out.1 HXB.out.2 1 _⟩⟩
              · go_simp
                refine (cTextV ⟨#[97, 98, 60, 38, 34, 62, 32, 49]⟩ 4 w0 a len cap b _ (by omega) (by omega) (by decide) (by decide) (by decide) hlen HR.out HD.out.cur).mono ?_
                rintro e W3 ⟨tC, rfl, htC, hC, hG⟩
                replace HT := hid ((hG.block tb (lt_of_heap HT.out) (fun e => HTB.out (Option.some.inj e))).trans HT.out)
                replace HX := hid ((hG.block bx (lt_of_heap HX.out) (fun e => by have := HXB.out.1; have := HD.out.lt; have := Option.some.inj e; omega)).trans HX.out)
                replace HD := hid (HD.out.draw hC hG)
                clear hC hG
                go_wp2_with fail
                refine hK.out _ _ trivial (fun _ => ?_)
                clear hK K
                try simp only [Act.put, List.setIfInBounds_toArray, List.set_cons_zero, List.set_cons_succ]
                generalize W3 = W at *
                refine wpAnyH_ready (rs := [4]) (by kernel_rfl) (by simp) (AllReadyH.cons rfl (fun K hK => ?_) AllReadyH.nil)
                · obtain ⟨tA, hcA, htA⟩ := tabA_at _ tb x hx HT.out
                  go_simp
                  refine hK.out _ _ trivial (fun _ => ?_)
                  clear hK K
                  try simp only [Act.put, List.setIfInBounds_toArray, List.set_cons_zero, List.set_cons_succ]
                  clear hcA
                  refine wpAnyH_take (i := 7) (v := ?_) rfl (by kernel_rfl) (by kernel_rfl) (by kernel_rfl) (fun _ _ _ h => h) (Or.inl ⟨by rfl, ?_⟩) trivial ?_
                  rotate_left
                  · intro w hSw
                    go_simp
                    try (with_reducible rfl)
                  try simp only [Act.put, List.setIfInBounds_toArray, List.set_cons_zero, List.set_cons_succ]
                  refine wpAnyH_ready (rs := [9]) (by kernel_rfl) (by simp) (AllReadyH.cons rfl (fun K hK => ?_) AllReadyH.nil)
                  · obtain ⟨⟨e0, e1⟩, f0, f1⟩ := box2e HX.out
                    go_simp
                    refine hK.out _ _ trivial (fun _ => ?_)
                    clear hK K
                    try simp only [Act.put, List.setIfInBounds_toArray, List.set_cons_zero, List.set_cons_succ]
                    refine wpAnyH_done (by kernel_rfl) ?_ _
                    go_wp2_with fail
                    go_meet
                    exact ⟨bx, tA, tC, rfl, ⟨box_set2 HX.out, HXB.out, htA, Nat.le_of_lt htC, (HD.out.set HXB.out.1 HXB.out.2 0 _).set HXB.out.1 HXB.out.2 1 _⟩⟩
            · go_simp
              refine (cTextV ⟨#[97, 98, 60, 38, 34, 62, 32, 49]⟩ 4 w0 a len cap b _ (by omega) (by omega) (by decide) (by decide) (by decide) hlen HR.out HD.out.cur).mono ?_
              rintro e W3 ⟨tC, rfl, htC, hC, hG⟩
              replace HX := hid ((hG.block bx (lt_of_heap HX.out) (fun e => by have := HXB.out.1; have := HD.out.lt; have := Option.some.inj e; omega)).trans HX.out)
              replace HD := hid (HD.out.draw hC hG)
              clear hC hG
              go_wp2_with fail
              refine hK.out _ _ trivial (fun _ => ?_)
              clear hK K
              try simp only [Act.put, List.setIfInBounds_toArray, List.set_cons_zero, List.set_cons_succ]
              generalize W3 = W at *
              refine wpAnyH_ready (rs := [0]) (by kernel_rfl) (by simp) (AllReadyH.cons rfl (fun K hK => ?_) AllReadyH.nil)
              · have HTB := hid (show ¬ W.heap.size = b by have := HD.out.gr.size; have := HD.out.lt; omega)
                go_simp
                refine hK.out _ _ trivial (fun _ => ?_)
                clear hK K
                try simp only [Act.put, List.setIfInBounds_toArray, List.set_cons_zero, List.set_cons_succ]
                have HT := hid (heap_alloc_new W (.cells #[.string ⟨#[97]⟩, .string ⟨#[120]⟩, .string ⟨#[112, 58, 97]⟩, .string ⟨#[113, 58, 97]⟩, .string ⟨#[112, 58, 120]⟩, .string ⟨#[110, 115]⟩, .string ⟨#[110, 115, 58, 112]⟩, .string ⟨#[73, 100]⟩] 9))
                replace HD := hid (HD.out.alloc (.cells #[.string ⟨#[97]⟩, .string ⟨#[120]⟩, .string ⟨#[112, 58, 97]⟩, .string ⟨#[113, 58, 97]⟩, .string ⟨#[112, 58, 120]⟩, .string ⟨#[110, 115]⟩, .string ⟨#[110, 115, 58, 112]⟩, .string ⟨#[73, 100]⟩] 9))
                replace HX := hid (blk_alloc HX.out (.cells #[.string ⟨#[97]⟩, .string ⟨#[120]⟩, .string ⟨#[112, 58, 97]⟩, .string ⟨#[113, 58, 97]⟩, .string ⟨#[112, 58, 120]⟩, .string ⟨#[110, 115]⟩, .string ⟨#[110, 115, 58, 112]⟩, .string ⟨#[73, 100]⟩] 9))
                generalize W.heap.size = tb at *
                generalize W.alloc (.cells #[.string ⟨#[97]⟩, .string ⟨#[120]⟩, .string ⟨#[112, 58, 97]⟩, .string ⟨#[113, 58, 97]⟩, .string ⟨#[112, 58, 120]⟩, .string ⟨#[110, 115]⟩, .string ⟨#[110, 115, 58, 112]⟩, .string ⟨#[73, 100]⟩] 9) = W at *
                refine wpAnyH_take (i := 3) (v := ?_) rfl (by kernel_rfl) (by kernel_rfl) (by kernel_rfl) (fun _ _ _ h => h) (Or.inl ⟨by rfl, ?_⟩) trivial ?_
                rotate_left
                · intro w hSw
                  go_simp
                  try (with_reducible rfl)
                try simp only [Act.put, List.setIfInBounds_toArray, List.set_cons_zero, List.set_cons_succ]
                refine wpAnyH_ready (rs := [4]) (by kernel_rfl) (by simp) (AllReadyH.cons rfl (fun K hK => ?_) AllReadyH.nil)
                · obtain ⟨tA, hcA, htA⟩ := tabA_at _ tb x hx HT.out
                  go_simp
                  refine hK.out _ _ trivial (fun _ => ?_)
                  clear hK K
                  try simp only [Act.put, List.setIfInBounds_toArray, List.set_cons_zero, List.set_cons_succ]
                  clear hcA
                  refine wpAnyH_take (i := 7) (v := ?_) rfl (by kernel_rfl) (by kernel_rfl) (by kernel_rfl) (fun _ _ _ h => h) (Or.inl ⟨by rfl, ?_⟩) trivial ?_
                  rotate_left
                  · intro w hSw
                    go_simp
                    try (with_reducible rfl)
                  try simp only [Act.put, List.setIfInBounds_toArray, List.set_cons_zero, List.set_cons_succ]
                  refine wpAnyH_ready (rs := [9]) (by kernel_rfl) (by simp) (AllReadyH.cons rfl (fun K hK => ?_) AllReadyH.nil)
                  · obtain ⟨⟨e0, e1⟩, f0, f1⟩ := box2e HX.out
                    go_simp
                    refine hK.out _ _ trivial (fun _ => ?_)
                    clear hK K
                    try simp only [Act.put, List.setIfInBounds_toArray, List.set_cons_zero, List.set_cons_succ]
                    refine wpAnyH_done (by kernel_rfl) ?_ _
                    go_wp2_with fail
                    go_meet
                    exact ⟨bx, tA, tC, rfl, ⟨box_set2 HX.out, HXB.out, htA, Nat.le_of_lt htC, (HD.out.set HXB.out.1 HXB.out.2 0 _).set HXB.out.1 HXB.out.2 1 _⟩⟩
      case rest =>
        obtain ⟨bx, tA, tC, rfl, HX⟩ := hcut
        obtain ⟨hm, hxb, hs1, hs2, hd⟩ := HX.out
        have HM := hid hm
        have HXB := hid hxb
        have HDc := hid hd
        clear HX hm hxb hd HD
        obtain ⟨⟨e0, e1⟩, f0, f1⟩ := box2e HM.out
        have HSA := hid hs1
        obtain ⟨B1, hB1⟩ : ∃ B : Bool, (tA.toList == [110, 115]) = B := ⟨_, rfl⟩
        obtain ⟨B2, hB2⟩ : ∃ B : Bool, (tA.toList == [110, 115, 58, 112]) = B := ⟨_, rfl⟩
        obtain ⟨B3, hB3⟩ : ∃ B : Bool, (tA.toList == [73, 100]) = B := ⟨_, rfl⟩
        go_upto_region 8 with fail
        go_cut [46] from 27 to 72 (fun x wv => x = .bool (B1 || B2) ∧ wv = wc)
        case first =>
          cases B1
          · go_wp2_with fail
            go_meet
            exact ⟨rfl, rfl⟩
          · go_wp2_with fail
            go_meet
            exact ⟨rfl, rfl⟩
        case rest =>
          obtain ⟨rfl, rfl⟩ := hcut
          obtain ⟨BB, hBB⟩ : ∃ B, (B1 || B2) = B := ⟨_, rfl⟩
          rw [hBB]
          clear hBB hB1 hB2
          go_upto_if 46 with fail
          go_cut [39] from 27 to 72 (fun x wv => ∃ y : ByteArray, Hid (wv.heap[bx]? = some (.cells #[.string tA, .string y] 114 (0, 0)) ∧ vz y ≤ 5 ∧ DSt w0 a len cap b w wv v l))
          case first =>
            have hbxb : ¬ bx = b := by have := HXB.out.1; have := HDc.out.lt; omega
            cases BB
            · go_wp2_with fail
              go_meet
              exact ⟨tC, HM.out, by omega, HDc.out⟩
            · go_wp2_with fail
              refine (cBelow 3 w0 a len cap b _ hlen HR.out (HDc.out.alloc _).cur (by omega) (by omega)).mono ?_
              rintro e w3 ⟨x, rfl, hx, hC3, hG3⟩
              have HD3 := hid ((HDc.out.alloc _).draw hC3 hG3)
              have HT3 := hid ((hG3.block wc.heap.size (by simp) (fun e => by have h4 : wc.heap.size = b := Option.some.inj e; have := HDc.out.gr.size; have := HDc.out.lt; omega)).trans (heap_alloc_new wc _))
              have HM3 := hid ((hG3.block bx (lt_of_heap (blk_alloc HM.out _)) (fun e => hbxb (Option.some.inj e))).trans (blk_alloc HM.out _))
              obtain ⟨t3, hc3, hs3⟩ := tab3_at w3 wc.heap.size x hx HT3.out
              have hx3 : (x : Int) < 3 := by omega
              clear e0 e1 f0 f1 hC3 hG3
              obtain ⟨⟨e0, e1⟩, f0, f1⟩ := box2e HM3.out
              go_wp2_with fail
              go_meet
              exact ⟨t3, box_set1 HM3.out, by omega, HD3.out.set HXB.out.1 HXB.out.2 1 _⟩
          case rest =>
            obtain ⟨y1, HX⟩ := hcut
            obtain ⟨hm, hs3, hd⟩ := HX.out
            have HM4 := hid hm
            have HD4 := hid hd
            clear HX hm hd HM HDc e0 e1 f0 f1
            obtain ⟨⟨e0, e1⟩, f0, f1⟩ := box2e HM4.out
            go_upto_if 55 with fail
            go_cut [39] from 27 to 72 (fun x wv => ∃ y : ByteArray, Hid (wv.heap[bx]? = some (.cells #[.string tA, .string y] 114 (0, 0)) ∧ vz y ≤ 5 ∧ DSt w0 a len cap b w wv v l))
            case first =>
              have hbxb : ¬ bx = b := by have := HXB.out.1; have := HD4.out.lt; omega
              cases B3
              · go_wp2_with fail
                go_meet
                exact ⟨y1, HM4.out, by omega, HD4.out⟩
              · go_wp2_with fail
                refine (cTextV ⟨#[48, 49, 50, 51, 52, 53]⟩ 3 w0 a len cap b _ (by omega) (by omega) (by decide) (by decide) (by decide) hlen HR.out HD4.out.cur).mono ?_
                rintro e w3 ⟨t5, rfl, ht5, hC3, hG3⟩
                have HD3 := hid (HD4.out.draw hC3 hG3)
                have HM3 := hid ((hG3.block bx (lt_of_heap HM4.out) (fun e => hbxb (Option.some.inj e))).trans HM4.out)
                obtain ⟨S5, hS5⟩ : ∃ S, (⟨#[105]⟩ : ByteArray) ++ t5 = S := ⟨_, rfl⟩
                have hz5 : vz S5 ≤ 1 + vz t5 := by rw [← hS5]; exact vz_app _ _
                have hov : ¬ 9223372036854775807 < (⟨#[105]⟩ : ByteArray).size + t5.size := by have := (vz_size (s := t5) (n := 5) (by omega) (by decide)).1; rw [show (⟨#[105]⟩ : ByteArray).size = 1 from rfl]; omega
                have hz6 : vz S5 ≤ 5 := by omega
                clear e0 e1 f0 f1 hC3 hG3 hz5
                obtain ⟨⟨e0, e1⟩, f0, f1⟩ := box2e HM3.out
                go_wp2_with fail
                go_meet
                exact ⟨S5, box_set1 HM3.out, hz6, HD3.out.set HXB.out.1 HXB.out.2 1 _⟩
            case rest =>
              obtain ⟨y2, HX⟩ := hcut
              obtain ⟨hm, hs4, hd⟩ := HX.out
              have HM5 := hid hm
              have HD5 := hid hd
              clear HX hm hd HM4 HD4 e0 e1 f0 f1
              obtain ⟨⟨e0, e1⟩, f0, f1⟩ := box2e HM5.out
              obtain ⟨a5, c5, hv5, hoa⟩ := HD5.out.row
              have CV := hid (cValueInS a5 c5 l tA wc hoa.atRow (atv_big HD5.out.sz (by decide)) (by omega) (by have := HSA.out; omega))
              obtain ⟨VF, hVF⟩ : ∃ VF, valF l tA = VF := ⟨_, rfl⟩
              rw [hVF] at CV
              subst hv5
              obtain ⟨L, hL⟩ : ∃ L, l.length = L := ⟨_, rfl⟩
              have HL := hid hL
              rw [hL] at CV hlk HXB HD5 ⊢
              obtain ⟨k1, rfl⟩ : ∃ k1, k = k1 + 1 := ⟨k - 1, by omega⟩
              clear hVF hL hoa
              cases VF with
              | some z =>
                go_wp2_with fail
                refine CV.out.mono ?_
                rintro e w4 ⟨rfl, rfl⟩
                go_wp2_with fail
                go_roundw
                case rel => exact ⟨k1, l, by go_num, by omega, by rw [HL.out]; omega, HD5.out⟩
                case measure => first | (simp [intOf]; omega) | simp [intOf]
              | none =>
                obtain ⟨i0, hi, hz0, hz1, hz2⟩ := info_parts infoAtW
                have HOA := hid (HD5.out.own.alloc (.cells #[.string tA, .string y2] 114))
                have HDA := hid (HD5.out.alloc (.cells #[.string tA, .string y2] 114))
                have HNE := hid (two_cells wc (.string tA) (.string y2) 114)
                have HON := hid (show ∀ u ∈ [Value.string tA, .string y2], u.oneCell' = true by
                  intro u hu
                  simp at hu
                  rcases hu with rfl | rfl <;> rfl)
                have hwb := HD5.out.gr.size
                rw [HL.out] at HOA
                go_wp2_with fail
                refine CV.out.mono ?_
                rintro e w4 ⟨rfl, rfl⟩
                go_wp2_with (at_builtin; refine wpList_append_own _ rfl _ _ 40 rfl w.heap.size 114 i0 _ 2 32 Tryz.underlying40 hi hz0 hz1 hz2 rfl (by decide) _ _ _ rfl HOA.out ⟨w4.heap.size, 0, none⟩ 1 1 [.string tA, .string y2] rfl rfl ?c1 ?c2 ?c3 ?c4 ?c5 ?_)
                case c1 => exact HNE.out
                case c2 => exact HON.out
                case c3 => unfold maxLen; omega
                case c4 => omega
                case c5 => simp; omega
                intro v6 w6 hown6 hgrow6 _
                have HD6 := hid (HDA.out.join (m := [⟨tA, y2⟩]) (fun x hx => by
                  rw [List.mem_singleton] at hx
                  subst hx
                  exact ⟨by show tA.size ≤ 20; have := HSA.out; omega, by show vz y2 ≤ 20; omega⟩) (by rw [HL.out]; exact hown6) hgrow6)
                obtain ⟨a6, c6, hv6⟩ := own_len hown6
                subst hv6
                clear hown6 hgrow6
                go_wp2_with fail
                go_roundw
                case rel => exact ⟨k1, l ++ [(⟨tA, y2⟩ : At)], by go_num, by omega, by rw [List.length_append, HL.out]; simp; omega, HD6.out⟩
                case measure => first | (simp [intOf]; omega) | simp [intOf]

end Go.Proofs.YteninofjeidljaaGreat

namespace Go.Proofs.YteninofjeidljaaGreat

set_option linter.unusedVariables false

structure Grn (ts : List Tk) (at_ : Nat) : Prop where
  pos : 0 < ts.length
  p0 : parI ts 0 = -1
  up : ∀ j, j < ts.length → UpOk ts j
  mem : at_ ∈ chainF ts ts.length
  el : elN ts at_

theorem chain_app {ts u : List Tk} : ∀ i, i ≤ ts.length → chainF (ts ++ u) i = chainF ts i
  | 0, _ => rfl
  | i + 1, h => by
    show i :: (chainF (ts ++ u) i).dropWhile _ = i :: (chainF ts i).dropWhile _
    rw [chain_app i (by omega), par_app (by omega)]

theorem el_app {ts u : List Tk} {p : Nat} (h : elN ts p) : elN (ts ++ u) p := by
  obtain ⟨h1, h2⟩ := h
  refine ⟨by rw [List.length_append]; omega, ?_⟩
  rw [List.getElem_append_left h1]
  exact h2

theorem up_app {ts u : List Tk} {j : Nat} (hj : j < ts.length) (h : UpOk ts j) : UpOk (ts ++ u) j := by
  rcases h with h | ⟨p, h1, h2, h3⟩
  · exact .inl h
  · exact .inr ⟨p, by rw [chain_app j (by omega)]; exact h1, by rw [par_app hj]; exact h2, el_app h3⟩

theorem mem_dw {p : Nat} : ∀ {l : List Nat}, p ∈ l → p ∈ l.dropWhile (fun (j : Nat) => !decide ((j : Int) = (p : Int)))
  | [], h => absurd h List.not_mem_nil
  | x :: l, h => by
    by_cases e : x = p
    · subst e
      rw [List.dropWhile_cons_of_neg (by simp)]
      exact List.mem_cons_self
    · rw [List.dropWhile_cons_of_pos (by simp; omega)]
      rcases List.mem_cons.1 h with h' | h'
      · exact absurd h'.symm e
      · exact mem_dw h'

theorem Grn.lt {ts : List Tk} {at_ : Nat} (h : Grn ts at_) : at_ < ts.length := by
  obtain ⟨n, hn⟩ : ∃ n, ts.length = n + 1 := ⟨ts.length - 1, by have := h.pos; omega⟩
  have := (linked_all n (fun j hj => h.up j (by omega))).2 at_ (by rw [← hn]; exact h.mem)
  omega

theorem Grn.start {t : Tk} (hk : t.kind = -1) (hn : ¬ t.name.size = 0) : Grn [t] 0 :=
  ⟨Nat.zero_lt_one, hk, fun j hj => .inl (by simp at hj; omega), by show 0 ∈ [0]; simp, ⟨Nat.zero_lt_one, hn⟩⟩

theorem Grn.push {ts : List Tk} {at_ : Nat} (h : Grn ts at_) {t : Tk} (hk : t.kind = (at_ : Int)) : (∀ j, j < (ts ++ [t]).length → UpOk (ts ++ [t]) j) ∧ at_ ∈ chainF (ts ++ [t]) (ts ++ [t]).length ∧ ts.length ∈ chainF (ts ++ [t]) (ts ++ [t]).length ∧ parI (ts ++ [t]) 0 = -1 := by
  have hpt : parI (ts ++ [t]) ts.length = (at_ : Int) := by unfold parI; simp [hk]
  have hl : (ts ++ [t]).length = ts.length + 1 := by simp
  have hc : chainF (ts ++ [t]) (ts.length + 1) = ts.length :: (chainF ts ts.length).dropWhile (fun (j : Nat) => !decide ((j : Int) = (at_ : Int))) := by
    show ts.length :: (chainF (ts ++ [t]) ts.length).dropWhile _ = _
    rw [chain_app _ (Nat.le_refl _), hpt]
  refine ⟨fun j hj => ?_, ?_, ?_, by rw [par_app h.pos]; exact h.p0⟩
  · rcases Nat.lt_or_ge j ts.length with h' | h'
    · exact up_app h' (h.up j h')
    · have : j = ts.length := by omega
      subst this
      exact .inr ⟨at_, by rw [chain_app _ (Nat.le_refl _)]; exact h.mem, hpt.symm, el_app h.el⟩
  · rw [hl, hc]
    exact List.mem_cons_of_mem _ (mem_dw h.mem)
  · rw [hl, hc]
    exact List.mem_cons_self

theorem Grn.keep {ts : List Tk} {at_ : Nat} (h : Grn ts at_) {t : Tk} (hk : t.kind = (at_ : Int)) : Grn (ts ++ [t]) at_ := by
  obtain ⟨h1, h2, _, h4⟩ := h.push hk
  exact ⟨by simp, h4, h1, h2, el_app h.el⟩

theorem Grn.into {ts : List Tk} {at_ : Nat} (h : Grn ts at_) {t : Tk} (hk : t.kind = (at_ : Int)) (hn : ¬ t.name.size = 0) : Grn (ts ++ [t]) ts.length := by
  obtain ⟨h1, _, h3, h4⟩ := h.push hk
  exact ⟨by simp, h4, h1, h3, ⟨by simp, by simpa using hn⟩⟩

theorem par_mem {ts : List Tk} (h0 : parI ts 0 = -1) : ∀ {c : List Nat}, Linked ts c → ∀ x, x ∈ c → 0 ≤ parI ts x → (parI ts x).toNat ∈ c
  | [], h, x, hx, _ => absurd hx List.not_mem_nil
  | [y], h, x, hx, hp => by
    rw [List.mem_singleton] at hx
    have : y = 0 := h
    subst hx
    subst this
    omega
  | y :: z :: r, h, x, hx, hp => by
    rcases List.mem_cons.1 hx with rfl | hx
    · rw [h.1, Int.toNat_natCast]
      exact List.mem_cons_of_mem _ List.mem_cons_self
    · exact List.mem_cons_of_mem _ (par_mem h0 h.tail x hx hp)

theorem Grn.outer {ts : List Tk} {at_ : Nat} (h : Grn ts at_) (hp : 0 ≤ parI ts at_) : Grn ts (parI ts at_).toNat := by
  obtain ⟨n, hn⟩ : ∃ n, ts.length = n + 1 := ⟨ts.length - 1, by have := h.pos; omega⟩
  have hl := (linked_all n (fun j hj => h.up j (by omega))).1
  rw [← hn] at hl
  refine ⟨h.pos, h.p0, h.up, par_mem h.p0 hl at_ h.mem hp, ?_⟩
  rcases h.up at_ h.lt with h' | ⟨p, _, e, he⟩
  · rw [h', h.p0] at hp
    omega
  · rw [← e, Int.toNat_natCast]
    exact he

end Go.Proofs.YteninofjeidljaaGreat

namespace Go.Proofs.YteninofjeidljaaGreat

open Go.RowKit

set_option linter.unusedVariables false

set_option linter.unusedSimpArgs false

theorem tab2_at (w : World) (B x : Nat) (hx : x < 2) (h : w.heap[B]? = some (.cells #[.string ⟨#[97]⟩, .string ⟨#[112, 58, 97]⟩] 9 (0, 0))) : ∃ t : ByteArray, w.cell? ⟨B, x, none⟩ = some (.string t) ∧ t.size ≤ 3 ∧ ¬ t.size = 0 := by
  rw [Lib.cell_of_heap h]
  rcases (show x = 0 ∨ x = 1 from by omega) with rfl | rfl
  all_goals exact ⟨_, rfl, by decide, by decide⟩

theorem tab5_at (w : World) (B x : Nat) (hx : x < 5) (h : w.heap[B]? = some (.cells #[.string ⟨#[97]⟩, .string ⟨#[98]⟩, .string ⟨#[112, 58, 97]⟩, .string ⟨#[113, 58, 98]⟩, .string ⟨#[99]⟩] 9 (0, 0))) : ∃ t : ByteArray, w.cell? ⟨B, x, none⟩ = some (.string t) ∧ t.size ≤ 3 ∧ ¬ t.size = 0 := by
  rw [Lib.cell_of_heap h]
  rcases (show x = 0 ∨ x = 1 ∨ x = 2 ∨ x = 3 ∨ x = 4 from by omega) with rfl | rfl | rfl | rfl | rfl
  all_goals exact ⟨_, rfl, by decide, by decide⟩

/-- The cursor, and what was there. -/
structure CSt (w0 : World) (a : Option Addr) (len cap b : Nat) (w wr : World) : Prop where
  cur : Cur w0 a len cap b wr
  gr : w.grownBy wr (some b)
  lt : b < w.heap.size
  le : w0.heap.size ≤ w.heap.size

theorem CSt.draw {w0 : World} {a : Option Addr} {len cap b : Nat} {w wr w1 : World} (h : CSt w0 a len cap b w wr) (hC : Cur w0 a len cap b w1) (g : wr.grownBy w1 (some b)) : CSt w0 a len cap b w w1 := ⟨hC, gtrans h.gr g, h.lt, h.le⟩

theorem CSt.alloc {w0 : World} {a : Option Addr} {len cap b : Nat} {w wr : World} (h : CSt w0 a len cap b w wr) (o : Obj) : CSt w0 a len cap b w (wr.alloc o) := h.draw (h.cur.alloc o) (World.grownBy_alloc wr o _)

theorem CSt.drewN {w0 : World} {a : Option Addr} {len cap b : Nat} {w wr : World} (h : CSt w0 a len cap b w wr) (n : Nat) : CSt w0 a len cap b w (wr.drewN n) := ⟨h.cur.drewN n, g_drewN h.gr n, h.lt, h.le⟩

theorem ownAts_lift {w : World} {B B' : Nat} {a : Option Addr} {l : List At} (h : OwnAts w B' a l) (hB : B ≤ B') : OwnAts w B a l := fun hl => by
  obtain ⟨g, o, cu, e1, e2, e3⟩ := h hl
  exact ⟨g, o, cu, e1, Nat.le_trans hB e2, e3⟩

theorem dst_own {w0 : World} {a : Option Addr} {len cap b : Nat} {w W W3 : World} {a5 : Option Addr} {c5 : Nat} {l : List At} (h : DSt w0 a len cap b W W3 (.slice a5 l.length c5) l) (hw : w.heap.size ≤ W.heap.size) : OwnAts W3 w.heap.size a5 l := by
  obtain ⟨a', c', e, ho⟩ := h.row
  cases e
  exact ownAts_lift ho hw

theorem own_mono {w : World} {B B' n s : Nat} {v : Value} {xs : List Value} {e : TypeId} (h : w.ownsRow B' e s v n xs) (hB : B ≤ B') : w.ownsRow B e s v n xs := by
  refine ⟨h.1, ?_⟩
  rcases h.2 with h' | ⟨g, cap, cur, h1, h2, h3⟩
  · exact .inl h'
  · exact .inr ⟨g, cap, cur, h1, Nat.le_trans hB h2, h3⟩

theorem own_grownR {w w' : World} {B n s : Nat} {v : Value} {xs : List Value} {E e : TypeId} {row : Option Nat} (h : w.ownsRow B E s v n xs) (hg : w.grownBy w' row) (hr : ∀ k, row = some k → ∃ c fz, w.heap[k]? = some (.cells c e fz)) (hE : E ≠ e) : w'.ownsRow B E s v n xs := by
  refine ⟨h.1, ?_⟩
  rcases h.2 with h' | ⟨g, cap, cur, h1, h2, h3, h4⟩
  · exact .inl h'
  · exact .inr ⟨g, cap, cur, h1, h2, blk_grownR h3 hg hr hE, h4⟩

/-- The nodes so far, the cursor, who is open. -/
structure NSt (w0 : World) (a : Option Addr) (len cap b : Nat) (w wr : World) (v : Value) (es : List Nd.E) (at_ : Nat) : Prop where
  c : CSt w0 a len cap b w wr
  row : Nd.Row wr w.heap.size v es
  sz : ∀ e ∈ es, TkV 20 e.t
  grn : Grn (es.map (·.t)) at_
  own : ∀ e ∈ es, wr.ownsRow w.heap.size 114 2 (.slice e.a e.t.attrs.length e.cap) e.t.attrs.length (atC e.t.attrs)
  apo : es.Pairwise fun e f => ∀ k, (Value.slice e.a e.t.attrs.length e.cap).ownBlock = some k → ¬ (Value.slice f.a f.t.attrs.length f.cap).ownBlock = some k

theorem apo_of {W W3 : World} {B : Nat} {es : List Nd.E} {a5 : Option Addr} {l5 : List At} {c5 : Nat} (h : ∀ e ∈ es, W.ownsRow B 114 2 (.slice e.a e.t.attrs.length e.cap) e.t.attrs.length (atC e.t.attrs)) (h5 : W3.ownsRow W.heap.size 114 2 (.slice a5 l5.length c5) l5.length (atC l5)) :
    ∀ e ∈ es, ∀ k, (Value.slice e.a e.t.attrs.length e.cap).ownBlock = some k → ¬ (Value.slice a5 l5.length c5).ownBlock = some k := fun e he k e1 e2 => by
  have := ((h e he).lt k e1).2
  have := (h5.lt k e2).1
  omega

theorem cur_row {w0 : World} {a : Option Addr} {len cap b : Nat} {wr w1 : World} {B : Nat} {v : Value} {es : List Nd.E} (hc : Cur w0 a len cap b wr) (h : Nd.Row wr B v es) (g : wr.grownBy w1 (some b)) : Nd.Row w1 B v es := by
  obtain ⟨_, _, i, hh, _, _, hb⟩ := hc
  exact h.keepB (KeepB.of_grown (p := fun k => k = b) g rfl) (fun k hk c e fz hx => by
    subst hk
    rw [hb] at hx
    injection hx with hx
    injection hx with _ h2 _
    subst h2
    exact ⟨by decide, by decide⟩)

section

variable {w0 : World} {a : Option Addr} {len cap b : Nat} {w wr w1 : World} {v : Value} {es : List Nd.E} {at_ : Nat}

theorem NSt.draw (h : NSt w0 a len cap b w wr v es at_) (hC : Cur w0 a len cap b w1) (g : wr.grownBy w1 (some b)) : NSt w0 a len cap b w w1 v es at_ :=
  ⟨h.c.draw hC g, cur_row h.c.cur h.row g, h.sz, h.grn, fun e he => (h.own e he).kept g (.inr (fun x => by have := ((h.own e he).lt b x).1; have := h.c.lt; omega)), h.apo⟩

theorem NSt.alloc (h : NSt w0 a len cap b w wr v es at_) (o : Obj) : NSt w0 a len cap b w (wr.alloc o) v es at_ :=
  ⟨h.c.alloc o, h.row.below ((Below.refl _ _).alloc (Nat.le_refl _) o), h.sz, h.grn, fun e he => (h.own e he).alloc o, h.apo⟩

theorem NSt.drewN (h : NSt w0 a len cap b w wr v es at_) (n : Nat) : NSt w0 a len cap b w (wr.drewN n) v es at_ :=
  ⟨h.c.drewN n, h.row.below (below_drewN (Below.refl _ _) n), h.sz, h.grn, fun e he => ownsRow_below (h.own e he) (below_drewN (Below.refl _ _) n), h.apo⟩

/-- One more. -/
theorem NSt.join (h : NSt w0 a len cap b w wr v es at_) {v' : Value} {e : Nd.E} {at' : Nat} (hr : Nd.Row w1 w.heap.size v' (es ++ [e])) (g : wr.grownBy w1 v.ownBlock) (hoe : wr.ownsRow w.heap.size 114 2 (.slice e.a e.t.attrs.length e.cap) e.t.attrs.length (atC e.t.attrs)) (hap : ∀ e' ∈ es, ∀ k, (Value.slice e'.a e'.t.attrs.length e'.cap).ownBlock = some k → ¬ (Value.slice e.a e.t.attrs.length e.cap).ownBlock = some k) (hz : TkV 20 e.t) (hg : Grn (es.map (·.t) ++ [e.t]) at') : NSt w0 a len cap b w w1 v' (es ++ [e]) at' := by
  refine ⟨⟨h.c.cur.grown g (fun x => ?_) (fun k x => ?_), ⟨g.os.trans h.c.gr.os, g.tape.trans h.c.gr.tape, g.output.trans h.c.gr.output, Nat.le_trans h.c.gr.size g.size, fun i hi hr => (g.block i (Nat.lt_of_lt_of_le hi h.c.gr.size) (fun x => ?_)).trans (h.c.gr.block i hi hr)⟩, h.c.lt, h.c.le⟩, hr, fun x hx => ?_, by rw [List.map_append]; exact hg, fun x hx => ?_, List.pairwise_append.2 ⟨h.apo, List.pairwise_singleton _ _, fun x hx y hy => by rw [List.mem_singleton] at hy; subst hy; exact hap x hx⟩⟩
  · have := (h.row.own.lt b x.symm).1
    have := h.c.lt
    omega
  · have := (h.row.own.lt k x).1
    have := h.c.le
    omega
  · have := (h.row.own.lt i x.symm).1
    omega
  · rcases List.mem_append.1 hx with h' | h'
    · exact h.sz x h'
    · rw [List.mem_singleton] at h'
      subst h'
      exact hz
  · rcases List.mem_append.1 hx with h' | h'
    · exact own_grownR (h.own x h') g h.row.kind (by decide)
    · rw [List.mem_singleton] at h'
      subst h'
      exact own_grownR hoe g h.row.kind (by decide)

end

theorem nst_one {w0 : World} {a : Option Addr} {len cap b : Nat} {w W : World} {tA : ByteArray} {l5 : List At} {a5 : Option Addr} {c5 : Nat} (hs : CSt w0 a len cap b w (W.alloc (.cells #[.int .i64 (-1), .string tA, .slice a5 l5.length c5, .string ⟨#[]⟩] 42)))
    (hm : (W.alloc (.cells #[.int .i64 (-1), .string tA, .slice a5 l5.length c5, .string ⟨#[]⟩] 42)).heap[W.heap.size]? = some (.cells #[.int .i64 (-1), .string tA, .slice a5 l5.length c5, .string ⟨#[]⟩] 42 (0, 0)))
    (ho : OwnAts (W.alloc (.cells #[.int .i64 (-1), .string tA, .slice a5 l5.length c5, .string ⟨#[]⟩] 42)) w.heap.size a5 l5) (how : (W.alloc (.cells #[.int .i64 (-1), .string tA, .slice a5 l5.length c5, .string ⟨#[]⟩] 42)).ownsRow w.heap.size 114 2 (.slice a5 l5.length c5) l5.length (atC l5)) (hw : w.heap.size ≤ W.heap.size) (hn : ¬ tA.size = 0) (hz : TkV 20 ⟨-1, tA, l5, ⟨#[]⟩⟩) :
    NSt w0 a len cap b w (W.alloc (.cells #[.int .i64 (-1), .string tA, .slice a5 l5.length c5, .string ⟨#[]⟩] 42)) (.slice (some ⟨W.heap.size, 0, none⟩) 1 1) [⟨⟨-1, tA, l5, ⟨#[]⟩⟩, a5, c5⟩] 0 :=
  ⟨hs, Nd.Row.one (e := ⟨⟨-1, tA, l5, ⟨#[]⟩⟩, a5, c5⟩) hw hm ho (fun g o h e => by
    obtain ⟨g', o', cu, e', _, hh, _⟩ := ho h
    simp only at e
    rw [e] at e'
    cases e'
    rintro rfl
    rw [hm] at hh
    injection hh with hh
    injection hh with _ h2 _
    exact absurd h2 (by decide)), fun e he => by
    rw [List.mem_singleton] at he
    subst he
    exact hz, Grn.start rfl hn, fun e he => by
    rw [List.mem_singleton] at he
    subst he
    exact how, List.pairwise_singleton _ _⟩

theorem ap_of {Wx W3 : World} {B : Nat} {v : Value} {es : List Nd.E} {a5 : Option Addr} {l5 : List At} (hrow : Nd.Row Wx B v es) (ho : OwnAts W3 Wx.heap.size a5 l5) :
    (∀ e ∈ es, ∀ (t : Tk) (c : Nat), t.attrs = l5 → Nd.Apart e ⟨t, a5, c⟩) ∧ (∀ g o, 0 < l5.length → a5 = some ⟨g, o, none⟩ → ¬ v.ownBlock = some g) := by
  refine ⟨fun e he t c ht hl hl' g o g' o' e1 e2 x => ?_, fun g o hl e1 x => ?_⟩
  · subst x
    subst ht
    obtain ⟨g1, o1, cu, a1, _, a3, _⟩ := (hrow.ats e he).1 hl
    obtain ⟨g2, o2, cu2, b1, b2, _⟩ := ho hl'
    rw [e1] at a1
    simp only at e2
    rw [e2] at b1
    cases a1
    cases b1
    have := lt_of_heap a3
    omega
  · obtain ⟨g2, o2, cu2, b1, b2, _⟩ := ho hl
    rw [e1] at b1
    cases b1
    have := (hrow.own.lt g x).2
    omega

theorem one_cells {W : World} {gn : Nat} {P : Int} {nm tx : ByteArray} {l5 : List At} {a5 : Option Addr} {c5 : Nat} (hm : W.heap[gn]? = some (.cells #[.int .i64 P, .string nm, .slice a5 l5.length c5, .string tx] 42 (0, 0))) :
    ∀ j u, (Nd.cs [⟨⟨P, nm, l5, tx⟩, a5, c5⟩])[j]? = some u → W.cell? ((⟨gn, 0, none⟩ : Addr).add j) = some u := by
  intro j u hj
  have e : Nd.cs [(⟨⟨P, nm, l5, tx⟩, a5, c5⟩ : Nd.E)] = [.int .i64 P, .string nm, .slice a5 l5.length c5, .string tx] := rfl
  rw [e] at hj
  rw [add_plainW, Lib.cell_of_heap hm, Nat.zero_add, ← hj]
  simp

theorem one_hf {W : World} {B : Nat} {v : Value} {P : Int} {nm tx : ByteArray} {l5 : List At} {a5 : Option Addr} {c5 : Nat} (ho : OwnAts W B a5 l5) (h : ∀ g o, 0 < l5.length → a5 = some ⟨g, o, none⟩ → ¬ v.ownBlock = some g) :
    ∀ e ∈ [(⟨⟨P, nm, l5, tx⟩, a5, c5⟩ : Nd.E)], OwnAts W B e.a e.t.attrs ∧ ∀ g o, 0 < e.t.attrs.length → e.a = some ⟨g, o, none⟩ → ¬ v.ownBlock = some g := by
  intro e he
  rw [List.mem_singleton] at he
  subst he
  exact ⟨ho, h⟩

theorem one_ap {es : List Nd.E} {P : Int} {nm tx : ByteArray} {l5 : List At} {a5 : Option Addr} {c5 : Nat} (h : ∀ e ∈ es, ∀ (t : Tk) (c : Nat), t.attrs = l5 → Nd.Apart e ⟨t, a5, c⟩) : ∀ e ∈ es, ∀ f ∈ [(⟨⟨P, nm, l5, tx⟩, a5, c5⟩ : Nd.E)], Nd.Apart e f := by
  intro e he f hf
  rw [List.mem_singleton] at hf
  subst hf
  exact h e he _ _ rfl

set_option maxRecDepth 8000 in
set_option maxHeartbeats 8000000 in
theorem cDraw8 (w0 : World) (a : Option Addr) (len cap b : Nat) (w : World) (hlen : len ≤ 4096) (hcr : CodeRow w0 a len) (hC : Cur w0 a len cap b w) :
    Calls Tryz.prog 93 #[.pointer (some ⟨b, 0, none⟩)] w fun e w' => ∃ a' c' es at_, e = .returned (.slice a' (es : List Nd.E).length c') ∧ 1 ≤ es.length ∧ es.length ≤ 11 ∧ NSt w0 a len cap b w w' (.slice a' es.length c') es at_ := by
  have HR := hid hcr
  have hbl : b < w.heap.size := by obtain ⟨i, h, _, _, hh⟩ := hC.2.2; exact lt_of_heap hh
  have HS0 := hid (show CSt w0 a len cap b w w from ⟨hC, ⟨rfl, rfl, rfl, Nat.le_refl _, fun _ _ _ => rfl⟩, hbl, hC.2.1.size⟩)
  clear hcr hC hbl
  go_enter Tryz.func93, Tryz.ntmps93
  go_upto_region 1 with fail
  go_cut [3] from 8 to 90 (fun x wv => ∃ (gn : Nat) (e : Nd.E), x = .slice (some ⟨gn, 0, none⟩) 1 1 ∧ Hid (NSt w0 a len cap b w wv (.slice (some ⟨gn, 0, none⟩) 1 1) [e] 0))
  case first =>
    refine wp_region_held_drew (S := fun _ => True) (by kernel_rfl) trivial (fun _ => ?_)
    have HS := hid (show CSt w0 a len cap b w w.drew from HS0.out.drewN 1)
    generalize w.drew = W at *
    refine wpAnyH_take (i := 1) (v := ?_) rfl (by kernel_rfl) (by kernel_rfl) (by kernel_rfl) (fun _ _ _ h => h) (Or.inl ⟨by rfl, ?_⟩) trivial ?_
    rotate_left
    · intro w hSw
      go_simp
      try (with_reducible rfl)
    try simp only [Act.put, List.setIfInBounds_toArray, List.set_cons_zero, List.set_cons_succ]
    refine wpAnyH_take (i := 5) (v := ?_) rfl (by kernel_rfl) (by kernel_rfl) (by kernel_rfl) (fun _ _ _ h => h) (Or.inl ⟨by rfl, ?_⟩) trivial ?_
    rotate_left
    · intro w hSw
      go_simp
      try (with_reducible rfl)
    try simp only [Act.put, List.setIfInBounds_toArray, List.set_cons_zero, List.set_cons_succ]
    refine wpAnyH_ready (rs := [0, 2]) (by kernel_rfl) (by simp) (AllReadyH.cons rfl (fun K hK => ?_) (AllReadyH.cons rfl (fun K hK => ?_) AllReadyH.nil))
    · have HTB := hid (show ¬ W.heap.size = b by have := HS.out.gr.size; have := HS.out.lt; omega)
      go_simp
      refine hK.out _ _ trivial (fun _ => ?_)
      clear hK K
      try simp only [Act.put, List.setIfInBounds_toArray, List.set_cons_zero, List.set_cons_succ]
      have HT := hid (heap_alloc_new W (.cells #[.string ⟨#[97]⟩, .string ⟨#[112, 58, 97]⟩] 9))
      replace HS := hid (HS.out.alloc (.cells #[.string ⟨#[97]⟩, .string ⟨#[112, 58, 97]⟩] 9))
      generalize W.heap.size = tb at *
      generalize W.alloc (.cells #[.string ⟨#[97]⟩, .string ⟨#[112, 58, 97]⟩] 9) = W at *
      refine wpAnyH_ready (rs := [2]) (by kernel_rfl) (by simp) (AllReadyH.cons rfl (fun K hK => ?_) AllReadyH.nil)
      · go_simp
        refine (cBelow 2 w0 a len cap b _ hlen HR.out HS.out.cur (by omega) (by omega)).mono ?_
        rintro e W2 ⟨x, rfl, hx, hC, hG⟩
        replace HT := hid ((hG.block tb (lt_of_heap HT.out) (fun e => HTB.out (Option.some.inj e))).trans HT.out)
        replace HS := hid (HS.out.draw hC hG)
        have hxn : (x : Int) < 2 := by omega
        clear hC hG
        go_wp2_with fail
        refine hK.out _ _ trivial (fun _ => ?_)
        clear hK K
        try simp only [Act.put, List.setIfInBounds_toArray, List.set_cons_zero, List.set_cons_succ]
        generalize W2 = W at *
        refine wpAnyH_take (i := 3) (v := ?_) rfl (by kernel_rfl) (by kernel_rfl) (by kernel_rfl) (fun _ _ _ h => h) (Or.inl ⟨by rfl, ?_⟩) trivial ?_
        rotate_left
        · intro w hSw
          go_simp
          try (with_reducible rfl)
        try simp only [Act.put, List.setIfInBounds_toArray, List.set_cons_zero, List.set_cons_succ]
        refine wpAnyH_ready (rs := [4, 6]) (by kernel_rfl) (by simp) (AllReadyH.cons rfl (fun K hK => ?_) (AllReadyH.cons rfl (fun K hK => ?_) AllReadyH.nil))
        · obtain ⟨tA, hcA, htA, htP⟩ := tab2_at _ tb x hx HT.out
          go_simp
          refine hK.out _ _ trivial (fun _ => ?_)
          clear hK K
          try simp only [Act.put, List.setIfInBounds_toArray, List.set_cons_zero, List.set_cons_succ]
          clear hcA
          refine wpAnyH_ready (rs := [6]) (by kernel_rfl) (by simp) (AllReadyH.cons rfl (fun K hK => ?_) AllReadyH.nil)
          · go_simp
            refine (cDrawAttrs true w0 a len cap b _ hlen HR.out HS.out.cur).mono ?_
            rintro e W3 ⟨a5, c5, l5, rfl, hl5, hd5⟩
            have HOA := hid (dst_own hd5 HS.out.gr.size)
            have HOW := hid (own_mono hd5.own HS.out.gr.size)
            have HSZ5 := hid hd5.sz
            replace HT := hid ((hd5.gr.block tb (lt_of_heap HT.out) (fun e => HTB.out (Option.some.inj e))).trans HT.out)
            replace HS := hid (HS.out.draw hd5.cur hd5.gr)
            clear hd5
            go_wp2_with fail
            refine hK.out _ _ trivial (fun _ => ?_)
            clear hK K
            try simp only [Act.put, List.setIfInBounds_toArray, List.set_cons_zero, List.set_cons_succ]
            generalize W3 = W at *
            refine wpAnyH_take (i := 7) (v := ?_) rfl (by kernel_rfl) (by kernel_rfl) (by kernel_rfl) (fun _ _ _ h => h) (Or.inl ⟨by rfl, ?_⟩) trivial ?_
            rotate_left
            · intro w hSw
              go_simp
              try (with_reducible rfl)
            try simp only [Act.put, List.setIfInBounds_toArray, List.set_cons_zero, List.set_cons_succ]
            refine wpAnyH_ready (rs := [8]) (by kernel_rfl) (by simp) (AllReadyH.cons rfl (fun K hK => ?_) AllReadyH.nil)
            · have HM := hid (heap_alloc_new W (.cells #[.int .i64 (-1), .string tA, .slice a5 l5.length c5, .string ⟨#[]⟩] 42))
              have HSA := hid (HS.out.alloc (.cells #[.int .i64 (-1), .string tA, .slice a5 l5.length c5, .string ⟨#[]⟩] 42))
              have HOA2 := hid (HOA.out.below ((Below.refl _ _).alloc (Nat.le_refl _) (.cells #[.int .i64 (-1), .string tA, .slice a5 l5.length c5, .string ⟨#[]⟩] 42)))
              have HOW2 := hid (HOW.out.alloc (.cells #[.int .i64 (-1), .string tA, .slice a5 l5.length c5, .string ⟨#[]⟩] 42))
              go_simp
              refine hK.out _ _ trivial (fun _ => ?_)
              clear hK K
              try simp only [Act.put, List.setIfInBounds_toArray, List.set_cons_zero, List.set_cons_succ]
              refine wpAnyH_ready (rs := [9]) (by kernel_rfl) (by simp) (AllReadyH.cons rfl (fun K hK => ?_) AllReadyH.nil)
              · go_simp
                refine hK.out _ _ trivial (fun _ => ?_)
                clear hK K
                try simp only [Act.put, List.setIfInBounds_toArray, List.set_cons_zero, List.set_cons_succ]
                refine wpAnyH_done (by kernel_rfl) ?_ _
                go_wp2_with fail
                go_meet
                exact ⟨_, ⟨⟨-1, tA, l5, ⟨#[]⟩⟩, a5, c5⟩, rfl, nst_one HSA.out HM.out HOA2.out HOW2.out HS.out.gr.size htP ⟨by show tA.size ≤ 20; omega, by show l5.length ≤ 20; omega, HSZ5.out, Nat.zero_le _⟩⟩
        · go_simp
          refine (cDrawAttrs true w0 a len cap b _ hlen HR.out HS.out.cur).mono ?_
          rintro e W3 ⟨a5, c5, l5, rfl, hl5, hd5⟩
          have HOA := hid (dst_own hd5 HS.out.gr.size)
          have HOW := hid (own_mono hd5.own HS.out.gr.size)
          have HSZ5 := hid hd5.sz
          replace HT := hid ((hd5.gr.block tb (lt_of_heap HT.out) (fun e => HTB.out (Option.some.inj e))).trans HT.out)
          replace HS := hid (HS.out.draw hd5.cur hd5.gr)
          clear hd5
          go_wp2_with fail
          refine hK.out _ _ trivial (fun _ => ?_)
          clear hK K
          try simp only [Act.put, List.setIfInBounds_toArray, List.set_cons_zero, List.set_cons_succ]
          generalize W3 = W at *
          refine wpAnyH_ready (rs := [4]) (by kernel_rfl) (by simp) (AllReadyH.cons rfl (fun K hK => ?_) AllReadyH.nil)
          · obtain ⟨tA, hcA, htA, htP⟩ := tab2_at _ tb x hx HT.out
            go_simp
            refine hK.out _ _ trivial (fun _ => ?_)
            clear hK K
            try simp only [Act.put, List.setIfInBounds_toArray, List.set_cons_zero, List.set_cons_succ]
            clear hcA
            refine wpAnyH_take (i := 7) (v := ?_) rfl (by kernel_rfl) (by kernel_rfl) (by kernel_rfl) (fun _ _ _ h => h) (Or.inl ⟨by rfl, ?_⟩) trivial ?_
            rotate_left
            · intro w hSw
              go_simp
              try (with_reducible rfl)
            try simp only [Act.put, List.setIfInBounds_toArray, List.set_cons_zero, List.set_cons_succ]
            refine wpAnyH_ready (rs := [8]) (by kernel_rfl) (by simp) (AllReadyH.cons rfl (fun K hK => ?_) AllReadyH.nil)
            · have HM := hid (heap_alloc_new W (.cells #[.int .i64 (-1), .string tA, .slice a5 l5.length c5, .string ⟨#[]⟩] 42))
              have HSA := hid (HS.out.alloc (.cells #[.int .i64 (-1), .string tA, .slice a5 l5.length c5, .string ⟨#[]⟩] 42))
              have HOA2 := hid (HOA.out.below ((Below.refl _ _).alloc (Nat.le_refl _) (.cells #[.int .i64 (-1), .string tA, .slice a5 l5.length c5, .string ⟨#[]⟩] 42)))
              have HOW2 := hid (HOW.out.alloc (.cells #[.int .i64 (-1), .string tA, .slice a5 l5.length c5, .string ⟨#[]⟩] 42))
              go_simp
              refine hK.out _ _ trivial (fun _ => ?_)
              clear hK K
              try simp only [Act.put, List.setIfInBounds_toArray, List.set_cons_zero, List.set_cons_succ]
              refine wpAnyH_ready (rs := [9]) (by kernel_rfl) (by simp) (AllReadyH.cons rfl (fun K hK => ?_) AllReadyH.nil)
              · go_simp
                refine hK.out _ _ trivial (fun _ => ?_)
                clear hK K
                try simp only [Act.put, List.setIfInBounds_toArray, List.set_cons_zero, List.set_cons_succ]
                refine wpAnyH_done (by kernel_rfl) ?_ _
                go_wp2_with fail
                go_meet
                exact ⟨_, ⟨⟨-1, tA, l5, ⟨#[]⟩⟩, a5, c5⟩, rfl, nst_one HSA.out HM.out HOA2.out HOW2.out HS.out.gr.size htP ⟨by show tA.size ≤ 20; omega, by show l5.length ≤ 20; omega, HSZ5.out, Nat.zero_le _⟩⟩
    · go_simp
      refine (cBelow 2 w0 a len cap b _ hlen HR.out HS.out.cur (by omega) (by omega)).mono ?_
      rintro e W2 ⟨x, rfl, hx, hC, hG⟩
      replace HS := hid (HS.out.draw hC hG)
      have hxn : (x : Int) < 2 := by omega
      clear hC hG
      go_wp2_with fail
      refine hK.out _ _ trivial (fun _ => ?_)
      clear hK K
      try simp only [Act.put, List.setIfInBounds_toArray, List.set_cons_zero, List.set_cons_succ]
      generalize W2 = W at *
      refine wpAnyH_ready (rs := [0, 6]) (by kernel_rfl) (by simp) (AllReadyH.cons rfl (fun K hK => ?_) (AllReadyH.cons rfl (fun K hK => ?_) AllReadyH.nil))
      · have HTB := hid (show ¬ W.heap.size = b by have := HS.out.gr.size; have := HS.out.lt; omega)
        go_simp
        refine hK.out _ _ trivial (fun _ => ?_)
        clear hK K
        try simp only [Act.put, List.setIfInBounds_toArray, List.set_cons_zero, List.set_cons_succ]
        have HT := hid (heap_alloc_new W (.cells #[.string ⟨#[97]⟩, .string ⟨#[112, 58, 97]⟩] 9))
        replace HS := hid (HS.out.alloc (.cells #[.string ⟨#[97]⟩, .string ⟨#[112, 58, 97]⟩] 9))
        generalize W.heap.size = tb at *
        generalize W.alloc (.cells #[.string ⟨#[97]⟩, .string ⟨#[112, 58, 97]⟩] 9) = W at *
        refine wpAnyH_take (i := 3) (v := ?_) rfl (by kernel_rfl) (by kernel_rfl) (by kernel_rfl) (fun _ _ _ h => h) (Or.inl ⟨by rfl, ?_⟩) trivial ?_
        rotate_left
        · intro w hSw
          go_simp
          try (with_reducible rfl)
        try simp only [Act.put, List.setIfInBounds_toArray, List.set_cons_zero, List.set_cons_succ]
        refine wpAnyH_ready (rs := [4, 6]) (by kernel_rfl) (by simp) (AllReadyH.cons rfl (fun K hK => ?_) (AllReadyH.cons rfl (fun K hK => ?_) AllReadyH.nil))
        · obtain ⟨tA, hcA, htA, htP⟩ := tab2_at _ tb x hx HT.out
          go_simp
          refine hK.out _ _ trivial (fun _ => ?_)
          clear hK K
          try simp only [Act.put, List.setIfInBounds_toArray, List.set_cons_zero, List.set_cons_succ]
          clear hcA
          refine wpAnyH_ready (rs := [6]) (by kernel_rfl) (by simp) (AllReadyH.cons rfl (fun K hK => ?_) AllReadyH.nil)
          · go_simp
            refine (cDrawAttrs true w0 a len cap b _ hlen HR.out HS.out.cur).mono ?_
            rintro e W3 ⟨a5, c5, l5, rfl, hl5, hd5⟩
            have HOA := hid (dst_own hd5 HS.out.gr.size)
            have HOW := hid (own_mono hd5.own HS.out.gr.size)
            have HSZ5 := hid hd5.sz
            replace HT := hid ((hd5.gr.block tb (lt_of_heap HT.out) (fun e => HTB.out (Option.some.inj e))).trans HT.out)
            replace HS := hid (HS.out.draw hd5.cur hd5.gr)
            clear hd5
            go_wp2_with fail
            refine hK.out _ _ trivial (fun _ => ?_)
            clear hK K
            try simp only [Act.put, List.setIfInBounds_toArray, List.set_cons_zero, List.set_cons_succ]
            generalize W3 = W at *
            refine wpAnyH_take (i := 7) (v := ?_) rfl (by kernel_rfl) (by kernel_rfl) (by kernel_rfl) (fun _ _ _ h => h) (Or.inl ⟨by rfl, ?_⟩) trivial ?_
            rotate_left
            · intro w hSw
              go_simp
              try (with_reducible rfl)
            try simp only [Act.put, List.setIfInBounds_toArray, List.set_cons_zero, List.set_cons_succ]
            refine wpAnyH_ready (rs := [8]) (by kernel_rfl) (by simp) (AllReadyH.cons rfl (fun K hK => ?_) AllReadyH.nil)
            · have HM := hid (heap_alloc_new W (.cells #[.int .i64 (-1), .string tA, .slice a5 l5.length c5, .string ⟨#[]⟩] 42))
              have HSA := hid (HS.out.alloc (.cells #[.int .i64 (-1), .string tA, .slice a5 l5.length c5, .string ⟨#[]⟩] 42))
              have HOA2 := hid (HOA.out.below ((Below.refl _ _).alloc (Nat.le_refl _) (.cells #[.int .i64 (-1), .string tA, .slice a5 l5.length c5, .string ⟨#[]⟩] 42)))
              have HOW2 := hid (HOW.out.alloc (.cells #[.int .i64 (-1), .string tA, .slice a5 l5.length c5, .string ⟨#[]⟩] 42))
              go_simp
              refine hK.out _ _ trivial (fun _ => ?_)
              clear hK K
              try simp only [Act.put, List.setIfInBounds_toArray, List.set_cons_zero, List.set_cons_succ]
              refine wpAnyH_ready (rs := [9]) (by kernel_rfl) (by simp) (AllReadyH.cons rfl (fun K hK => ?_) AllReadyH.nil)
              · go_simp
                refine hK.out _ _ trivial (fun _ => ?_)
                clear hK K
                try simp only [Act.put, List.setIfInBounds_toArray, List.set_cons_zero, List.set_cons_succ]
                refine wpAnyH_done (by kernel_rfl) ?_ _
                go_wp2_with fail
                go_meet
                exact ⟨_, ⟨⟨-1, tA, l5, ⟨#[]⟩⟩, a5, c5⟩, rfl, nst_one HSA.out HM.out HOA2.out HOW2.out HS.out.gr.size htP ⟨by show tA.size ≤ 20; omega, by show l5.length ≤ 20; omega, HSZ5.out, Nat.zero_le _⟩⟩
        · go_simp
          refine (cDrawAttrs true w0 a len cap b _ hlen HR.out HS.out.cur).mono ?_
          rintro e W3 ⟨a5, c5, l5, rfl, hl5, hd5⟩
          have HOA := hid (dst_own hd5 HS.out.gr.size)
          have HOW := hid (own_mono hd5.own HS.out.gr.size)
          have HSZ5 := hid hd5.sz
          replace HT := hid ((hd5.gr.block tb (lt_of_heap HT.out) (fun e => HTB.out (Option.some.inj e))).trans HT.out)
          replace HS := hid (HS.out.draw hd5.cur hd5.gr)
          clear hd5
          go_wp2_with fail
          refine hK.out _ _ trivial (fun _ => ?_)
          clear hK K
          try simp only [Act.put, List.setIfInBounds_toArray, List.set_cons_zero, List.set_cons_succ]
          generalize W3 = W at *
          refine wpAnyH_ready (rs := [4]) (by kernel_rfl) (by simp) (AllReadyH.cons rfl (fun K hK => ?_) AllReadyH.nil)
          · obtain ⟨tA, hcA, htA, htP⟩ := tab2_at _ tb x hx HT.out
            go_simp
            refine hK.out _ _ trivial (fun _ => ?_)
            clear hK K
            try simp only [Act.put, List.setIfInBounds_toArray, List.set_cons_zero, List.set_cons_succ]
            clear hcA
            refine wpAnyH_take (i := 7) (v := ?_) rfl (by kernel_rfl) (by kernel_rfl) (by kernel_rfl) (fun _ _ _ h => h) (Or.inl ⟨by rfl, ?_⟩) trivial ?_
            rotate_left
            · intro w hSw
              go_simp
              try (with_reducible rfl)
            try simp only [Act.put, List.setIfInBounds_toArray, List.set_cons_zero, List.set_cons_succ]
            refine wpAnyH_ready (rs := [8]) (by kernel_rfl) (by simp) (AllReadyH.cons rfl (fun K hK => ?_) AllReadyH.nil)
            · have HM := hid (heap_alloc_new W (.cells #[.int .i64 (-1), .string tA, .slice a5 l5.length c5, .string ⟨#[]⟩] 42))
              have HSA := hid (HS.out.alloc (.cells #[.int .i64 (-1), .string tA, .slice a5 l5.length c5, .string ⟨#[]⟩] 42))
              have HOA2 := hid (HOA.out.below ((Below.refl _ _).alloc (Nat.le_refl _) (.cells #[.int .i64 (-1), .string tA, .slice a5 l5.length c5, .string ⟨#[]⟩] 42)))
              have HOW2 := hid (HOW.out.alloc (.cells #[.int .i64 (-1), .string tA, .slice a5 l5.length c5, .string ⟨#[]⟩] 42))
              go_simp
              refine hK.out _ _ trivial (fun _ => ?_)
              clear hK K
              try simp only [Act.put, List.setIfInBounds_toArray, List.set_cons_zero, List.set_cons_succ]
              refine wpAnyH_ready (rs := [9]) (by kernel_rfl) (by simp) (AllReadyH.cons rfl (fun K hK => ?_) AllReadyH.nil)
              · go_simp
                refine hK.out _ _ trivial (fun _ => ?_)
                clear hK K
                try simp only [Act.put, List.setIfInBounds_toArray, List.set_cons_zero, List.set_cons_succ]
                refine wpAnyH_done (by kernel_rfl) ?_ _
                go_wp2_with fail
                go_meet
                exact ⟨_, ⟨⟨-1, tA, l5, ⟨#[]⟩⟩, a5, c5⟩, rfl, nst_one HSA.out HM.out HOA2.out HOW2.out HS.out.gr.size htP ⟨by show tA.size ≤ 20; omega, by show l5.length ≤ 20; omega, HSZ5.out, Nat.zero_le _⟩⟩
      · go_simp
        refine (cDrawAttrs true w0 a len cap b _ hlen HR.out HS.out.cur).mono ?_
        rintro e W3 ⟨a5, c5, l5, rfl, hl5, hd5⟩
        have HOA := hid (dst_own hd5 HS.out.gr.size)
        have HOW := hid (own_mono hd5.own HS.out.gr.size)
        have HSZ5 := hid hd5.sz
        replace HS := hid (HS.out.draw hd5.cur hd5.gr)
        clear hd5
        go_wp2_with fail
        refine hK.out _ _ trivial (fun _ => ?_)
        clear hK K
        try simp only [Act.put, List.setIfInBounds_toArray, List.set_cons_zero, List.set_cons_succ]
        generalize W3 = W at *
        refine wpAnyH_ready (rs := [0]) (by kernel_rfl) (by simp) (AllReadyH.cons rfl (fun K hK => ?_) AllReadyH.nil)
        · have HTB := hid (show ¬ W.heap.size = b by have := HS.out.gr.size; have := HS.out.lt; omega)
          go_simp
          refine hK.out _ _ trivial (fun _ => ?_)
          clear hK K
          try simp only [Act.put, List.setIfInBounds_toArray, List.set_cons_zero, List.set_cons_succ]
          have HT := hid (heap_alloc_new W (.cells #[.string ⟨#[97]⟩, .string ⟨#[112, 58, 97]⟩] 9))
          replace HS := hid (HS.out.alloc (.cells #[.string ⟨#[97]⟩, .string ⟨#[112, 58, 97]⟩] 9))
          replace HOA := hid (HOA.out.below ((Below.refl _ _).alloc (Nat.le_refl _) (.cells #[.string ⟨#[97]⟩, .string ⟨#[112, 58, 97]⟩] 9)))
          replace HOW := hid (HOW.out.alloc (.cells #[.string ⟨#[97]⟩, .string ⟨#[112, 58, 97]⟩] 9))
          generalize W.heap.size = tb at *
          generalize W.alloc (.cells #[.string ⟨#[97]⟩, .string ⟨#[112, 58, 97]⟩] 9) = W at *
          refine wpAnyH_take (i := 3) (v := ?_) rfl (by kernel_rfl) (by kernel_rfl) (by kernel_rfl) (fun _ _ _ h => h) (Or.inl ⟨by rfl, ?_⟩) trivial ?_
          rotate_left
          · intro w hSw
            go_simp
            try (with_reducible rfl)
          try simp only [Act.put, List.setIfInBounds_toArray, List.set_cons_zero, List.set_cons_succ]
          refine wpAnyH_ready (rs := [4]) (by kernel_rfl) (by simp) (AllReadyH.cons rfl (fun K hK => ?_) AllReadyH.nil)
          · obtain ⟨tA, hcA, htA, htP⟩ := tab2_at _ tb x hx HT.out
            go_simp
            refine hK.out _ _ trivial (fun _ => ?_)
            clear hK K
            try simp only [Act.put, List.setIfInBounds_toArray, List.set_cons_zero, List.set_cons_succ]
            clear hcA
            refine wpAnyH_take (i := 7) (v := ?_) rfl (by kernel_rfl) (by kernel_rfl) (by kernel_rfl) (fun _ _ _ h => h) (Or.inl ⟨by rfl, ?_⟩) trivial ?_
            rotate_left
            · intro w hSw
              go_simp
              try (with_reducible rfl)
            try simp only [Act.put, List.setIfInBounds_toArray, List.set_cons_zero, List.set_cons_succ]
            refine wpAnyH_ready (rs := [8]) (by kernel_rfl) (by simp) (AllReadyH.cons rfl (fun K hK => ?_) AllReadyH.nil)
            · have HM := hid (heap_alloc_new W (.cells #[.int .i64 (-1), .string tA, .slice a5 l5.length c5, .string ⟨#[]⟩] 42))
              have HSA := hid (HS.out.alloc (.cells #[.int .i64 (-1), .string tA, .slice a5 l5.length c5, .string ⟨#[]⟩] 42))
              have HOA2 := hid (HOA.out.below ((Below.refl _ _).alloc (Nat.le_refl _) (.cells #[.int .i64 (-1), .string tA, .slice a5 l5.length c5, .string ⟨#[]⟩] 42)))
              have HOW2 := hid (HOW.out.alloc (.cells #[.int .i64 (-1), .string tA, .slice a5 l5.length c5, .string ⟨#[]⟩] 42))
              go_simp
              refine hK.out _ _ trivial (fun _ => ?_)
              clear hK K
              try simp only [Act.put, List.setIfInBounds_toArray, List.set_cons_zero, List.set_cons_succ]
              refine wpAnyH_ready (rs := [9]) (by kernel_rfl) (by simp) (AllReadyH.cons rfl (fun K hK => ?_) AllReadyH.nil)
              · go_simp
                refine hK.out _ _ trivial (fun _ => ?_)
                clear hK K
                try simp only [Act.put, List.setIfInBounds_toArray, List.set_cons_zero, List.set_cons_succ]
                refine wpAnyH_done (by kernel_rfl) ?_ _
                go_wp2_with fail
                go_meet
                exact ⟨_, ⟨⟨-1, tA, l5, ⟨#[]⟩⟩, a5, c5⟩, rfl, nst_one HSA.out HM.out HOA2.out HOW2.out HS.out.gr.size htP ⟨by show tA.size ≤ 20; omega, by show l5.length ≤ 20; omega, HSZ5.out, Nat.zero_le _⟩⟩
  obtain ⟨gn, e1, rfl, HN1⟩ := hcut
  clear HS0
  go_wp2_with fail
  refine (cBelow 10 w0 a len cap b _ hlen HR.out HN1.out.c.cur (by omega) (by omega)).mono ?_
  rintro e w2 ⟨y, rfl, hy, hC2, hG2⟩
  have HN2 := hid (HN1.out.draw hC2 hG2)
  clear hC2 hG2 HN1
  go_wp2_with fail
  go_loopw [3, 4, 5] (fun v x y wr => ∃ (k : Nat) (es : List Nd.E) (at_ : Nat), y = .int .i64 (k : Int) ∧ k ≤ 9 ∧ x = .int .i64 (at_ : Int) ∧ es.length + k ≤ 10 ∧ Hid (NSt w0 a len cap b w wr v es at_)) (fun _ _ y _ => (intOf y).toNat)
  case atStart => exact ⟨y, [e1], 0, rfl, by omega, rfl, by show 1 + y ≤ 10; omega, HN2.out⟩
  case round =>
    clear HN2
    obtain ⟨k, es, at_, rfl, hk, rfl, hek, HN⟩ := hrel
    obtain ⟨av, cv, hv, htk⟩ := HN.out.row.tkRow
    have hpos : 1 ≤ es.length := by have := HN.out.grn.pos; rw [List.length_map] at this; exact this
    subst hv
    by_cases h0 : k = 0
    · subst h0
      clear htk
      go_wp2_with fail
      go_ret
      exact ⟨av, cv, es, at_, rfl, hpos, by omega, HN.out⟩
    obtain ⟨k1, rfl⟩ : ∃ k1, k = k1 + 1 := ⟨k - 1, by omega⟩
    obtain ⟨m, hm⟩ : ∃ m, es.length = m + 1 := ⟨es.length - 1, by omega⟩
    have HL := hid hm
    have hlm : (es.map (·.t)).length = m + 1 := by rw [List.length_map]; exact hm
    have hat : at_ < m + 1 := by have := HN.out.grn.lt; rw [hlm] at this; exact this
    have HLM := hid hlm
    obtain ⟨bb5, o5, aa, ca, ea, hb5, c0, c1, c2, c3, cr5⟩ := htk m (by omega)
    clear cr5
    have HTK := hid htk
    have HB5 := hid hb5
    subst ea
    obtain ⟨tl, htl⟩ : ∃ t, (es.map (·.t))[m] = t := ⟨_, rfl⟩
    have hz5 := (show TkV 20 tl from by
      rw [← htl, List.getElem_map]
      exact HN.out.sz _ (List.getElem_mem (by omega)))
    rw [htl] at c0 c1 c2 c3
    obtain ⟨tk, tn, tat, tx⟩ := tl
    have z1 : tn.size ≤ 20 := hz5.1
    simp only at c0 c1 c2 c3
    have M1 := hid (heap_alloc_new wr (.cells #[.int .i64 tk, .string tn, .slice aa tat.length ca, .string tx] 42))
    have HNA := hid (HN.out.alloc (.cells #[.int .i64 tk, .string tn, .slice aa tat.length ca, .string tx] 42))
    have hbw : ¬ wr.heap.size = b := by have := HN.out.c.gr.size; have := HN.out.c.lt; omega
    have HNL := hid (show es.length + [(⟨⟨0, ⟨#[]⟩, [], ⟨#[]⟩⟩, none, 0⟩ : Nd.E)].length ≤ 2097152 by rw [hm]; simp; omega)
    rw [hm] at HN HNA hek ⊢
    obtain ⟨q, hq⟩ : ∃ q, tat.length = q := ⟨_, rfl⟩
    rw [hq] at c2 M1 HNA
    clear htl hlm hm htk hz5 hq hpos
    go_wp2_with fail
    refine (cBelow 5 w0 a len cap b _ hlen HR.out HNA.out.c.cur (by omega) (by omega)).mono ?_
    rintro e w3 ⟨x, rfl, hx, hC3, hG3⟩
    have HN3 := hid (HNA.out.draw hC3 hG3)
    have M3 := hid ((hG3.block wr.heap.size (lt_of_heap M1.out) (fun e => hbw (Option.some.inj e))).trans M1.out)
    clear hC3 hG3 c0 c1 c2 c3 HNA M1
    obtain ⟨⟨x0, x1, x2, x3⟩, _⟩ := box4 M3.out
    by_cases hx2 : x < 2
    · have hd2 : decide ((x : Int) < 2) = true := decide_eq_true (by omega)
      have E1 := empty_is tn
      obtain ⟨B1, hB1⟩ : ∃ B, decide (tn.size = 0) = B := ⟨_, rfl⟩
      rw [hB1] at E1
      obtain ⟨B2, hB2⟩ : ∃ B : Bool, (tk == (at_ : Int)) = B := ⟨_, rfl⟩
      clear hB1
      go_upto_region 12 with fail
      go_cut [67] from 57 to 89 (fun x wv => x = .bool (B1 && B2) ∧ wv = w3)
      case first =>
        cases B1
        · go_wp2_with fail
          go_meet
          exact ⟨rfl, rfl⟩
        · go_wp2_with fail
          go_meet
          exact ⟨rfl, rfl⟩
      obtain ⟨rfl, rfl⟩ := hcut
      obtain ⟨BB, hBB⟩ : ∃ B, (B1 && B2) = B := ⟨_, rfl⟩
      rw [hBB]
      clear hBB hB2 E1
      cases BB
      · go_wp2_with fail
        refine (cTextV ⟨#[97, 98, 60, 38, 62, 32, 10]⟩ 4 w0 a len cap b _ (by omega) (by omega) (by decide) (by decide) (by decide) hlen HR.out HN3.out.c.cur).mono ?_
        rintro e w4 ⟨t5, rfl, ht5, hC4, hG4⟩
        have HN4 := hid (HN3.out.draw hC4 hG4)
        obtain ⟨S5, hS5⟩ : ∃ S, (⟨#[116]⟩ : ByteArray) ++ t5 = S := ⟨_, rfl⟩
        have hz6 : vz S5 ≤ 20 := by have := vz_app ⟨#[116]⟩ t5; rw [hS5, show vz ⟨#[116]⟩ = 1 from rfl] at this; omega
        have hov : ¬ 9223372036854775807 < (⟨#[116]⟩ : ByteArray).size + t5.size := by have := (vz_size (s := t5) (n := 5) (by omega) (by decide)).1; rw [show (⟨#[116]⟩ : ByteArray).size = 1 from rfl]; omega
        have HMN := hid (heap_alloc_new w4 (.cells #[.int .i64 (at_ : Int), .string ⟨#[]⟩, .slice none 0 0, .string S5] 42))
        have HSA := hid (HN4.out.alloc (.cells #[.int .i64 (at_ : Int), .string ⟨#[]⟩, .slice none 0 0, .string S5] 42))
        have HCL := hid (one_cells (l5 := []) HMN.out)
        have hw4 := HN4.out.c.gr.size
        clear hC4 hG4 x0 x1 x2 x3
        go_wp2_with (at_builtin; refine Nd.wpL_join _ rfl _ _ rfl w.heap.size _ es [⟨⟨(at_ : Int), ⟨#[]⟩, [], S5⟩, none, 0⟩] rfl HSA.out.row w4.heap.size 1 1 rfl rfl HCL.out (fun y hy => ?d1) (List.pairwise_singleton _ _) (fun e he y hy => ?d2) ?d3 ?d4 ?_)
        case d1 =>
          rw [List.mem_singleton] at hy
          subst hy
          exact ⟨fun h => absurd h (Nat.not_lt_zero _), fun g o h => absurd h (Nat.not_lt_zero _)⟩
        case d2 =>
          rw [List.mem_singleton] at hy
          subst hy
          exact fun _ h => absurd h (Nat.not_lt_zero _)
        case d3 => exact HNL.out
        case d4 => simp; omega
        intro a7 c7 w7 hr7 hb7 hg7
        have HN7 := hid (HSA.out.join (e := ⟨⟨(at_ : Int), ⟨#[]⟩, [], S5⟩, none, 0⟩) hr7 hg7 (World.ownsRow_nil _ _ _ _) (fun _ _ _ _ e => nomatch (show (none : Option Nat) = some _ from e)) ⟨Nat.zero_le _, Nat.zero_le _, fun y hy => absurd hy List.not_mem_nil, hz6⟩ (HSA.out.grn.keep rfl))
        clear hr7 hb7 hg7
        go_wp2_with fail
        go_roundw
        case rel => exact ⟨k1, es ++ [⟨⟨(at_ : Int), ⟨#[]⟩, [], S5⟩, none, 0⟩], at_, by go_num, by omega, rfl, by rw [List.length_append, HL.out]; simp; omega, hid (by simpa using HN7.out)⟩
        case measure => first | (simp [intOf]; omega) | simp [intOf]
      · go_wp2_with fail
        go_roundw
        case rel => exact ⟨k1, es, at_, by go_num, by omega, rfl, by rw [HL.out]; omega, HN3.out⟩
        case measure => first | (simp [intOf]; omega) | simp [intOf]
    have hd2 : decide ((x : Int) < 2) = false := decide_eq_false (by omega)
    by_cases hx4 : x = 4
    · subst hx4
      obtain ⟨av2, cv2, ev2, htk3⟩ := HN3.out.row.tkRow
      obtain ⟨rfl, rfl⟩ : some (⟨bb5, o5, none⟩ : Addr) = av2 ∧ cv = cv2 := by injection ev2 with h1 _ h3; exact ⟨h1, h3⟩
      obtain ⟨b6, o6, ea6, y0, _⟩ := htk3.kindAt at_ (by rw [HLM.out]; exact hat)
      obtain ⟨rfl, rfl⟩ : bb5 = b6 ∧ o5 = o6 := by cases ea6; exact ⟨rfl, rfl⟩
      have hatn : (at_ : Int) < ((m + 1 : Nat) : Int) := by omega
      obtain ⟨P, hP⟩ : ∃ P, parI (es.map (·.t)) at_ = P := ⟨_, rfl⟩
      have HP := hid hP
      rw [hP] at y0
      clear hP htk3 ev2 ea6
      by_cases hp0 : 0 ≤ P
      · have HG := hid (HN3.out.grn.outer (by rw [HP.out]; exact hp0))
        rw [HP.out] at HG
        obtain ⟨pn, hpn⟩ : ∃ pn : Nat, P = (pn : Int) := ⟨P.toNat, by omega⟩
        subst hpn
        rw [Int.toNat_natCast] at HG
        go_wp2_with fail
        go_roundw
        case rel => exact ⟨k1, es, pn, by go_num, by omega, rfl, by rw [HL.out]; omega, ⟨HN3.out.c, HN3.out.row, HN3.out.sz, HG.out, HN3.out.own, HN3.out.apo⟩⟩
        case measure => first | (simp [intOf]; omega) | simp [intOf]
      · have hp1 : P < 0 := by omega
        go_wp2_with fail
        go_roundw
        case rel => exact ⟨k1, es, at_, by go_num, by omega, rfl, by rw [HL.out]; omega, HN3.out⟩
        case measure => first | (simp [intOf]; omega) | simp [intOf]
    · have hd4 : ((x : Int) == 4) = false := by simp; omega
      generalize some (⟨bb5, o5, none⟩ : Addr) = av at *
      have HL2 := hid (show ∀ e : Nd.E, (es ++ [e]).length = m + 1 + 1 from fun e => by rw [List.length_append, HL.out]; rfl)
      clear hx2
      go_upto_region 8 with fail
      go_cut [3] from 31 to 89 (fun x wv => ∃ (a7 : Option Addr) (c7 : Nat) (e : Nd.E), x = .slice a7 (m + 1 + 1) c7 ∧ e.t.kind = (at_ : Int) ∧ ¬ e.t.name.size = 0 ∧ Hid (NSt w0 a len cap b w wv (.slice a7 (m + 1 + 1) c7) (es ++ [e]) at_))
      case first =>
          refine wp_region_held_drew (S := fun _ => True) (by kernel_rfl) trivial (fun _ => ?_)
          have HS := hid (show NSt w0 a len cap b w w3.drew (.slice av (m + 1) cv) es at_ from HN3.out.drewN 1)
          generalize w3.drew = W at *
          refine wpAnyH_take (i := 0) (v := ?_) rfl (by kernel_rfl) (by kernel_rfl) (by kernel_rfl) (fun _ _ _ h => h) (Or.inl ⟨by rfl, ?_⟩) trivial ?_
          rotate_left
          · intro w hSw
            go_simp
            try (with_reducible rfl)
          try simp only [Act.put, List.setIfInBounds_toArray, List.set_cons_zero, List.set_cons_succ]
          refine wpAnyH_take (i := 1) (v := ?_) rfl (by kernel_rfl) (by kernel_rfl) (by kernel_rfl) (fun _ _ _ h => h) (Or.inl ⟨by rfl, ?_⟩) trivial ?_
          rotate_left
          · intro w hSw
            go_simp
            try (with_reducible rfl)
          try simp only [Act.put, List.setIfInBounds_toArray, List.set_cons_zero, List.set_cons_succ]
          refine wpAnyH_take (i := 3) (v := ?_) rfl (by kernel_rfl) (by kernel_rfl) (by kernel_rfl) (fun _ _ _ h => h) (Or.inl ⟨by rfl, ?_⟩) trivial ?_
          rotate_left
          · intro w hSw
            go_simp
            try (with_reducible rfl)
          try simp only [Act.put, List.setIfInBounds_toArray, List.set_cons_zero, List.set_cons_succ]
          refine wpAnyH_take (i := 7) (v := ?_) rfl (by kernel_rfl) (by kernel_rfl) (by kernel_rfl) (fun _ _ _ h => h) (Or.inl ⟨by rfl, ?_⟩) trivial ?_
          rotate_left
          · intro w hSw
            go_simp
            try (with_reducible rfl)
          try simp only [Act.put, List.setIfInBounds_toArray, List.set_cons_zero, List.set_cons_succ]
          refine wpAnyH_ready (rs := [2, 4]) (by kernel_rfl) (by simp) (AllReadyH.cons rfl (fun K hK => ?_) (AllReadyH.cons rfl (fun K hK => ?_) AllReadyH.nil))
          · have HTB := hid (show ¬ W.heap.size = b by have := HS.out.c.gr.size; have := HS.out.c.lt; omega)
            go_simp
            refine hK.out _ _ trivial (fun _ => ?_)
            clear hK K
            try simp only [Act.put, List.setIfInBounds_toArray, List.set_cons_zero, List.set_cons_succ]
            have HT := hid (heap_alloc_new W (.cells #[.string ⟨#[97]⟩, .string ⟨#[98]⟩, .string ⟨#[112, 58, 97]⟩, .string ⟨#[113, 58, 98]⟩, .string ⟨#[99]⟩] 9))
            replace HS := hid (HS.out.alloc (.cells #[.string ⟨#[97]⟩, .string ⟨#[98]⟩, .string ⟨#[112, 58, 97]⟩, .string ⟨#[113, 58, 98]⟩, .string ⟨#[99]⟩] 9))
            generalize W.heap.size = tb at *
            generalize W.alloc (.cells #[.string ⟨#[97]⟩, .string ⟨#[98]⟩, .string ⟨#[112, 58, 97]⟩, .string ⟨#[113, 58, 98]⟩, .string ⟨#[99]⟩] 9) = W at *
            refine wpAnyH_ready (rs := [4]) (by kernel_rfl) (by simp) (AllReadyH.cons rfl (fun K hK => ?_) AllReadyH.nil)
            · go_simp
              refine (cBelow 5 w0 a len cap b _ hlen HR.out HS.out.c.cur (by omega) (by omega)).mono ?_
              rintro e W2 ⟨x, rfl, hx, hC, hG⟩
              replace HT := hid ((hG.block tb (lt_of_heap HT.out) (fun e => HTB.out (Option.some.inj e))).trans HT.out)
              replace HS := hid (HS.out.draw hC hG)
              have hxn : (x : Int) < 5 := by omega
              clear hC hG
              go_wp2_with fail
              refine hK.out _ _ trivial (fun _ => ?_)
              clear hK K
              try simp only [Act.put, List.setIfInBounds_toArray, List.set_cons_zero, List.set_cons_succ]
              generalize W2 = W at *
              refine wpAnyH_take (i := 5) (v := ?_) rfl (by kernel_rfl) (by kernel_rfl) (by kernel_rfl) (fun _ _ _ h => h) (Or.inl ⟨by rfl, ?_⟩) trivial ?_
              rotate_left
              · intro w hSw
                go_simp
                try (with_reducible rfl)
              try simp only [Act.put, List.setIfInBounds_toArray, List.set_cons_zero, List.set_cons_succ]
              refine wpAnyH_ready (rs := [6, 8]) (by kernel_rfl) (by simp) (AllReadyH.cons rfl (fun K hK => ?_) (AllReadyH.cons rfl (fun K hK => ?_) AllReadyH.nil))
              · obtain ⟨tA, hcA, htA, htP⟩ := tab5_at _ tb x hx HT.out
                go_simp
                refine hK.out _ _ trivial (fun _ => ?_)
                clear hK K
                try simp only [Act.put, List.setIfInBounds_toArray, List.set_cons_zero, List.set_cons_succ]
                clear hcA
                refine wpAnyH_ready (rs := [8]) (by kernel_rfl) (by simp) (AllReadyH.cons rfl (fun K hK => ?_) AllReadyH.nil)
                · go_simp
                  refine (cDrawAttrs false w0 a len cap b _ hlen HR.out HS.out.c.cur).mono ?_
                  rintro e W3 ⟨a5, c5, l5, rfl, hl5, hd5⟩
                  have HOA := hid (dst_own hd5 HS.out.c.gr.size)
                  have HOW := hid (own_mono hd5.own HS.out.c.gr.size)
                  have HSZ5 := hid hd5.sz
                  have HAP := hid (ap_of HS.out.row (dst_own hd5 (Nat.le_refl _)))
                  have HAO := hid (apo_of HS.out.own hd5.own)
                  replace HT := hid ((hd5.gr.block tb (lt_of_heap HT.out) (fun e => HTB.out (Option.some.inj e))).trans HT.out)
                  replace HS := hid (HS.out.draw hd5.cur hd5.gr)
                  clear hd5
                  go_wp2_with fail
                  refine hK.out _ _ trivial (fun _ => ?_)
                  clear hK K
                  try simp only [Act.put, List.setIfInBounds_toArray, List.set_cons_zero, List.set_cons_succ]
                  generalize W3 = W at *
                  refine wpAnyH_take (i := 9) (v := ?_) rfl (by kernel_rfl) (by kernel_rfl) (by kernel_rfl) (fun _ _ _ h => h) (Or.inl ⟨by rfl, ?_⟩) trivial ?_
                  rotate_left
                  · intro w hSw
                    go_simp
                    try (with_reducible rfl)
                  try simp only [Act.put, List.setIfInBounds_toArray, List.set_cons_zero, List.set_cons_succ]
                  refine wpAnyH_ready (rs := [10]) (by kernel_rfl) (by simp) (AllReadyH.cons rfl (fun K hK => ?_) AllReadyH.nil)
                  · have HMN := hid (heap_alloc_new W (.cells #[.int .i64 (at_ : Int), .string tA, .slice a5 l5.length c5, .string ⟨#[]⟩] 42))
                    have HSA := hid (HS.out.alloc (.cells #[.int .i64 (at_ : Int), .string tA, .slice a5 l5.length c5, .string ⟨#[]⟩] 42))
                    have HOA2 := hid (HOA.out.below ((Below.refl _ _).alloc (Nat.le_refl _) (.cells #[.int .i64 (at_ : Int), .string tA, .slice a5 l5.length c5, .string ⟨#[]⟩] 42)))
                    have HOW2 := hid (HOW.out.alloc (.cells #[.int .i64 (at_ : Int), .string tA, .slice a5 l5.length c5, .string ⟨#[]⟩] 42))
                    have HZW := hid (show w.heap.size ≤ (W.alloc (.cells #[.int .i64 (at_ : Int), .string tA, .slice a5 l5.length c5, .string ⟨#[]⟩] 42)).heap.size from HSA.out.c.gr.size)
                    go_simp
                    refine hK.out _ _ trivial (fun _ => ?_)
                    clear hK K
                    try simp only [Act.put, List.setIfInBounds_toArray, List.set_cons_zero, List.set_cons_succ]
                    generalize W.heap.size = gn at *
                    generalize W.alloc (.cells #[.int .i64 (at_ : Int), .string tA, .slice a5 l5.length c5, .string ⟨#[]⟩] 42) = W at *
                    refine wpAnyH_ready (rs := [11]) (by kernel_rfl) (by simp) (AllReadyH.cons rfl (fun K hK => ?_) AllReadyH.nil)
                    · refine Nd.step_join rfl (.tmp 31) (.tmp 41) rfl w.heap.size (.slice av (m + 1) cv) es [⟨⟨(at_ : Int), tA, l5, ⟨#[]⟩⟩, a5, c5⟩] (by simp [Act.eval, Act.put]) HSA.out.row gn 1 1 (by simp [Act.eval, Act.put]) rfl (one_cells HMN.out) (one_hf HOA2.out HAP.out.2) (List.pairwise_singleton _ _) (one_ap HAP.out.1) HNL.out HZW.out ?_
                      intro a7 c7 w7 hr7 hb7 hg7
                      have HR7 := hid hr7
                      have HG7 := hid hg7
                      clear hr7 hb7 hg7
                      refine hK.out _ _ trivial (fun _ => ?_)
                      clear hK K
                      try simp only [Act.put, List.setIfInBounds_toArray, List.set_cons_zero, List.set_cons_succ]
                      refine wpAnyH_ready (rs := [12]) (by kernel_rfl) (by simp) (AllReadyH.cons rfl (fun K hK => ?_) AllReadyH.nil)
                      · go_simp
                        refine hK.out _ _ trivial (fun _ => ?_)
                        clear hK K
                        try simp only [Act.put, List.setIfInBounds_toArray, List.set_cons_zero, List.set_cons_succ]
                        refine wpAnyH_done (by kernel_rfl) ?_ _
                        go_wp2_with fail
                        go_meet
                        exact ⟨a7, c7, ⟨⟨(at_ : Int), tA, l5, ⟨#[]⟩⟩, a5, c5⟩, by rw [HL.out], rfl, htP, by rw [← HL2.out ⟨⟨(at_ : Int), tA, l5, ⟨#[]⟩⟩, a5, c5⟩]; exact HSA.out.join HR7.out HG7.out HOW2.out HAO.out ⟨by show tA.size ≤ 20; omega, by show l5.length ≤ 20; omega, HSZ5.out, Nat.zero_le _⟩ (HSA.out.grn.keep rfl)⟩
              · go_simp
                refine (cDrawAttrs false w0 a len cap b _ hlen HR.out HS.out.c.cur).mono ?_
                rintro e W3 ⟨a5, c5, l5, rfl, hl5, hd5⟩
                have HOA := hid (dst_own hd5 HS.out.c.gr.size)
                have HOW := hid (own_mono hd5.own HS.out.c.gr.size)
                have HSZ5 := hid hd5.sz
                have HAP := hid (ap_of HS.out.row (dst_own hd5 (Nat.le_refl _)))
                have HAO := hid (apo_of HS.out.own hd5.own)
                replace HT := hid ((hd5.gr.block tb (lt_of_heap HT.out) (fun e => HTB.out (Option.some.inj e))).trans HT.out)
                replace HS := hid (HS.out.draw hd5.cur hd5.gr)
                clear hd5
                go_wp2_with fail
                refine hK.out _ _ trivial (fun _ => ?_)
                clear hK K
                try simp only [Act.put, List.setIfInBounds_toArray, List.set_cons_zero, List.set_cons_succ]
                generalize W3 = W at *
                refine wpAnyH_ready (rs := [6]) (by kernel_rfl) (by simp) (AllReadyH.cons rfl (fun K hK => ?_) AllReadyH.nil)
                · obtain ⟨tA, hcA, htA, htP⟩ := tab5_at _ tb x hx HT.out
                  go_simp
                  refine hK.out _ _ trivial (fun _ => ?_)
                  clear hK K
                  try simp only [Act.put, List.setIfInBounds_toArray, List.set_cons_zero, List.set_cons_succ]
                  clear hcA
                  refine wpAnyH_take (i := 9) (v := ?_) rfl (by kernel_rfl) (by kernel_rfl) (by kernel_rfl) (fun _ _ _ h => h) (Or.inl ⟨by rfl, ?_⟩) trivial ?_
                  rotate_left
                  · intro w hSw
                    go_simp
                    try (with_reducible rfl)
                  try simp only [Act.put, List.setIfInBounds_toArray, List.set_cons_zero, List.set_cons_succ]
                  refine wpAnyH_ready (rs := [10]) (by kernel_rfl) (by simp) (AllReadyH.cons rfl (fun K hK => ?_) AllReadyH.nil)
                  · have HMN := hid (heap_alloc_new W (.cells #[.int .i64 (at_ : Int), .string tA, .slice a5 l5.length c5, .string ⟨#[]⟩] 42))
                    have HSA := hid (HS.out.alloc (.cells #[.int .i64 (at_ : Int), .string tA, .slice a5 l5.length c5, .string ⟨#[]⟩] 42))
                    have HOA2 := hid (HOA.out.below ((Below.refl _ _).alloc (Nat.le_refl _) (.cells #[.int .i64 (at_ : Int), .string tA, .slice a5 l5.length c5, .string ⟨#[]⟩] 42)))
                    have HOW2 := hid (HOW.out.alloc (.cells #[.int .i64 (at_ : Int), .string tA, .slice a5 l5.length c5, .string ⟨#[]⟩] 42))
                    have HZW := hid (show w.heap.size ≤ (W.alloc (.cells #[.int .i64 (at_ : Int), .string tA, .slice a5 l5.length c5, .string ⟨#[]⟩] 42)).heap.size from HSA.out.c.gr.size)
                    go_simp
                    refine hK.out _ _ trivial (fun _ => ?_)
                    clear hK K
                    try simp only [Act.put, List.setIfInBounds_toArray, List.set_cons_zero, List.set_cons_succ]
                    generalize W.heap.size = gn at *
                    generalize W.alloc (.cells #[.int .i64 (at_ : Int), .string tA, .slice a5 l5.length c5, .string ⟨#[]⟩] 42) = W at *
                    refine wpAnyH_ready (rs := [11]) (by kernel_rfl) (by simp) (AllReadyH.cons rfl (fun K hK => ?_) AllReadyH.nil)
                    · refine Nd.step_join rfl (.tmp 31) (.tmp 41) rfl w.heap.size (.slice av (m + 1) cv) es [⟨⟨(at_ : Int), tA, l5, ⟨#[]⟩⟩, a5, c5⟩] (by simp [Act.eval, Act.put]) HSA.out.row gn 1 1 (by simp [Act.eval, Act.put]) rfl (one_cells HMN.out) (one_hf HOA2.out HAP.out.2) (List.pairwise_singleton _ _) (one_ap HAP.out.1) HNL.out HZW.out ?_
                      intro a7 c7 w7 hr7 hb7 hg7
                      have HR7 := hid hr7
                      have HG7 := hid hg7
                      clear hr7 hb7 hg7
                      refine hK.out _ _ trivial (fun _ => ?_)
                      clear hK K
                      try simp only [Act.put, List.setIfInBounds_toArray, List.set_cons_zero, List.set_cons_succ]
                      refine wpAnyH_ready (rs := [12]) (by kernel_rfl) (by simp) (AllReadyH.cons rfl (fun K hK => ?_) AllReadyH.nil)
                      · go_simp
                        refine hK.out _ _ trivial (fun _ => ?_)
                        clear hK K
                        try simp only [Act.put, List.setIfInBounds_toArray, List.set_cons_zero, List.set_cons_succ]
                        refine wpAnyH_done (by kernel_rfl) ?_ _
                        go_wp2_with fail
                        go_meet
                        exact ⟨a7, c7, ⟨⟨(at_ : Int), tA, l5, ⟨#[]⟩⟩, a5, c5⟩, by rw [HL.out], rfl, htP, by rw [← HL2.out ⟨⟨(at_ : Int), tA, l5, ⟨#[]⟩⟩, a5, c5⟩]; exact HSA.out.join HR7.out HG7.out HOW2.out HAO.out ⟨by show tA.size ≤ 20; omega, by show l5.length ≤ 20; omega, HSZ5.out, Nat.zero_le _⟩ (HSA.out.grn.keep rfl)⟩
          · go_simp
            refine (cBelow 5 w0 a len cap b _ hlen HR.out HS.out.c.cur (by omega) (by omega)).mono ?_
            rintro e W2 ⟨x, rfl, hx, hC, hG⟩
            replace HS := hid (HS.out.draw hC hG)
            have hxn : (x : Int) < 5 := by omega
            clear hC hG
            go_wp2_with fail
            refine hK.out _ _ trivial (fun _ => ?_)
            clear hK K
            try simp only [Act.put, List.setIfInBounds_toArray, List.set_cons_zero, List.set_cons_succ]
            generalize W2 = W at *
            refine wpAnyH_ready (rs := [2, 8]) (by kernel_rfl) (by simp) (AllReadyH.cons rfl (fun K hK => ?_) (AllReadyH.cons rfl (fun K hK => ?_) AllReadyH.nil))
            · have HTB := hid (show ¬ W.heap.size = b by have := HS.out.c.gr.size; have := HS.out.c.lt; omega)
              go_simp
              refine hK.out _ _ trivial (fun _ => ?_)
              clear hK K
              try simp only [Act.put, List.setIfInBounds_toArray, List.set_cons_zero, List.set_cons_succ]
              have HT := hid (heap_alloc_new W (.cells #[.string ⟨#[97]⟩, .string ⟨#[98]⟩, .string ⟨#[112, 58, 97]⟩, .string ⟨#[113, 58, 98]⟩, .string ⟨#[99]⟩] 9))
              replace HS := hid (HS.out.alloc (.cells #[.string ⟨#[97]⟩, .string ⟨#[98]⟩, .string ⟨#[112, 58, 97]⟩, .string ⟨#[113, 58, 98]⟩, .string ⟨#[99]⟩] 9))
              generalize W.heap.size = tb at *
              generalize W.alloc (.cells #[.string ⟨#[97]⟩, .string ⟨#[98]⟩, .string ⟨#[112, 58, 97]⟩, .string ⟨#[113, 58, 98]⟩, .string ⟨#[99]⟩] 9) = W at *
              refine wpAnyH_take (i := 5) (v := ?_) rfl (by kernel_rfl) (by kernel_rfl) (by kernel_rfl) (fun _ _ _ h => h) (Or.inl ⟨by rfl, ?_⟩) trivial ?_
              rotate_left
              · intro w hSw
                go_simp
                try (with_reducible rfl)
              try simp only [Act.put, List.setIfInBounds_toArray, List.set_cons_zero, List.set_cons_succ]
              refine wpAnyH_ready (rs := [6, 8]) (by kernel_rfl) (by simp) (AllReadyH.cons rfl (fun K hK => ?_) (AllReadyH.cons rfl (fun K hK => ?_) AllReadyH.nil))
              · obtain ⟨tA, hcA, htA, htP⟩ := tab5_at _ tb x hx HT.out
                go_simp
                refine hK.out _ _ trivial (fun _ => ?_)
                clear hK K
                try simp only [Act.put, List.setIfInBounds_toArray, List.set_cons_zero, List.set_cons_succ]
                clear hcA
                refine wpAnyH_ready (rs := [8]) (by kernel_rfl) (by simp) (AllReadyH.cons rfl (fun K hK => ?_) AllReadyH.nil)
                · go_simp
                  refine (cDrawAttrs false w0 a len cap b _ hlen HR.out HS.out.c.cur).mono ?_
                  rintro e W3 ⟨a5, c5, l5, rfl, hl5, hd5⟩
                  have HOA := hid (dst_own hd5 HS.out.c.gr.size)
                  have HOW := hid (own_mono hd5.own HS.out.c.gr.size)
                  have HSZ5 := hid hd5.sz
                  have HAP := hid (ap_of HS.out.row (dst_own hd5 (Nat.le_refl _)))
                  have HAO := hid (apo_of HS.out.own hd5.own)
                  replace HT := hid ((hd5.gr.block tb (lt_of_heap HT.out) (fun e => HTB.out (Option.some.inj e))).trans HT.out)
                  replace HS := hid (HS.out.draw hd5.cur hd5.gr)
                  clear hd5
                  go_wp2_with fail
                  refine hK.out _ _ trivial (fun _ => ?_)
                  clear hK K
                  try simp only [Act.put, List.setIfInBounds_toArray, List.set_cons_zero, List.set_cons_succ]
                  generalize W3 = W at *
                  refine wpAnyH_take (i := 9) (v := ?_) rfl (by kernel_rfl) (by kernel_rfl) (by kernel_rfl) (fun _ _ _ h => h) (Or.inl ⟨by rfl, ?_⟩) trivial ?_
                  rotate_left
                  · intro w hSw
                    go_simp
                    try (with_reducible rfl)
                  try simp only [Act.put, List.setIfInBounds_toArray, List.set_cons_zero, List.set_cons_succ]
                  refine wpAnyH_ready (rs := [10]) (by kernel_rfl) (by simp) (AllReadyH.cons rfl (fun K hK => ?_) AllReadyH.nil)
                  · have HMN := hid (heap_alloc_new W (.cells #[.int .i64 (at_ : Int), .string tA, .slice a5 l5.length c5, .string ⟨#[]⟩] 42))
                    have HSA := hid (HS.out.alloc (.cells #[.int .i64 (at_ : Int), .string tA, .slice a5 l5.length c5, .string ⟨#[]⟩] 42))
                    have HOA2 := hid (HOA.out.below ((Below.refl _ _).alloc (Nat.le_refl _) (.cells #[.int .i64 (at_ : Int), .string tA, .slice a5 l5.length c5, .string ⟨#[]⟩] 42)))
                    have HOW2 := hid (HOW.out.alloc (.cells #[.int .i64 (at_ : Int), .string tA, .slice a5 l5.length c5, .string ⟨#[]⟩] 42))
                    have HZW := hid (show w.heap.size ≤ (W.alloc (.cells #[.int .i64 (at_ : Int), .string tA, .slice a5 l5.length c5, .string ⟨#[]⟩] 42)).heap.size from HSA.out.c.gr.size)
                    go_simp
                    refine hK.out _ _ trivial (fun _ => ?_)
                    clear hK K
                    try simp only [Act.put, List.setIfInBounds_toArray, List.set_cons_zero, List.set_cons_succ]
                    generalize W.heap.size = gn at *
                    generalize W.alloc (.cells #[.int .i64 (at_ : Int), .string tA, .slice a5 l5.length c5, .string ⟨#[]⟩] 42) = W at *
                    refine wpAnyH_ready (rs := [11]) (by kernel_rfl) (by simp) (AllReadyH.cons rfl (fun K hK => ?_) AllReadyH.nil)
                    · refine Nd.step_join rfl (.tmp 31) (.tmp 41) rfl w.heap.size (.slice av (m + 1) cv) es [⟨⟨(at_ : Int), tA, l5, ⟨#[]⟩⟩, a5, c5⟩] (by simp [Act.eval, Act.put]) HSA.out.row gn 1 1 (by simp [Act.eval, Act.put]) rfl (one_cells HMN.out) (one_hf HOA2.out HAP.out.2) (List.pairwise_singleton _ _) (one_ap HAP.out.1) HNL.out HZW.out ?_
                      intro a7 c7 w7 hr7 hb7 hg7
                      have HR7 := hid hr7
                      have HG7 := hid hg7
                      clear hr7 hb7 hg7
                      refine hK.out _ _ trivial (fun _ => ?_)
                      clear hK K
                      try simp only [Act.put, List.setIfInBounds_toArray, List.set_cons_zero, List.set_cons_succ]
                      refine wpAnyH_ready (rs := [12]) (by kernel_rfl) (by simp) (AllReadyH.cons rfl (fun K hK => ?_) AllReadyH.nil)
                      · go_simp
                        refine hK.out _ _ trivial (fun _ => ?_)
                        clear hK K
                        try simp only [Act.put, List.setIfInBounds_toArray, List.set_cons_zero, List.set_cons_succ]
                        refine wpAnyH_done (by kernel_rfl) ?_ _
                        go_wp2_with fail
                        go_meet
                        exact ⟨a7, c7, ⟨⟨(at_ : Int), tA, l5, ⟨#[]⟩⟩, a5, c5⟩, by rw [HL.out], rfl, htP, by rw [← HL2.out ⟨⟨(at_ : Int), tA, l5, ⟨#[]⟩⟩, a5, c5⟩]; exact HSA.out.join HR7.out HG7.out HOW2.out HAO.out ⟨by show tA.size ≤ 20; omega, by show l5.length ≤ 20; omega, HSZ5.out, Nat.zero_le _⟩ (HSA.out.grn.keep rfl)⟩
              · go_simp
                refine (cDrawAttrs false w0 a len cap b _ hlen HR.out HS.out.c.cur).mono ?_
                rintro e W3 ⟨a5, c5, l5, rfl, hl5, hd5⟩
                have HOA := hid (dst_own hd5 HS.out.c.gr.size)
                have HOW := hid (own_mono hd5.own HS.out.c.gr.size)
                have HSZ5 := hid hd5.sz
                have HAP := hid (ap_of HS.out.row (dst_own hd5 (Nat.le_refl _)))
                have HAO := hid (apo_of HS.out.own hd5.own)
                replace HT := hid ((hd5.gr.block tb (lt_of_heap HT.out) (fun e => HTB.out (Option.some.inj e))).trans HT.out)
                replace HS := hid (HS.out.draw hd5.cur hd5.gr)
                clear hd5
                go_wp2_with fail
                refine hK.out _ _ trivial (fun _ => ?_)
                clear hK K
                try simp only [Act.put, List.setIfInBounds_toArray, List.set_cons_zero, List.set_cons_succ]
                generalize W3 = W at *
                refine wpAnyH_ready (rs := [6]) (by kernel_rfl) (by simp) (AllReadyH.cons rfl (fun K hK => ?_) AllReadyH.nil)
                · obtain ⟨tA, hcA, htA, htP⟩ := tab5_at _ tb x hx HT.out
                  go_simp
                  refine hK.out _ _ trivial (fun _ => ?_)
                  clear hK K
                  try simp only [Act.put, List.setIfInBounds_toArray, List.set_cons_zero, List.set_cons_succ]
                  clear hcA
                  refine wpAnyH_take (i := 9) (v := ?_) rfl (by kernel_rfl) (by kernel_rfl) (by kernel_rfl) (fun _ _ _ h => h) (Or.inl ⟨by rfl, ?_⟩) trivial ?_
                  rotate_left
                  · intro w hSw
                    go_simp
                    try (with_reducible rfl)
                  try simp only [Act.put, List.setIfInBounds_toArray, List.set_cons_zero, List.set_cons_succ]
                  refine wpAnyH_ready (rs := [10]) (by kernel_rfl) (by simp) (AllReadyH.cons rfl (fun K hK => ?_) AllReadyH.nil)
                  · have HMN := hid (heap_alloc_new W (.cells #[.int .i64 (at_ : Int), .string tA, .slice a5 l5.length c5, .string ⟨#[]⟩] 42))
                    have HSA := hid (HS.out.alloc (.cells #[.int .i64 (at_ : Int), .string tA, .slice a5 l5.length c5, .string ⟨#[]⟩] 42))
                    have HOA2 := hid (HOA.out.below ((Below.refl _ _).alloc (Nat.le_refl _) (.cells #[.int .i64 (at_ : Int), .string tA, .slice a5 l5.length c5, .string ⟨#[]⟩] 42)))
                    have HOW2 := hid (HOW.out.alloc (.cells #[.int .i64 (at_ : Int), .string tA, .slice a5 l5.length c5, .string ⟨#[]⟩] 42))
                    have HZW := hid (show w.heap.size ≤ (W.alloc (.cells #[.int .i64 (at_ : Int), .string tA, .slice a5 l5.length c5, .string ⟨#[]⟩] 42)).heap.size from HSA.out.c.gr.size)
                    go_simp
                    refine hK.out _ _ trivial (fun _ => ?_)
                    clear hK K
                    try simp only [Act.put, List.setIfInBounds_toArray, List.set_cons_zero, List.set_cons_succ]
                    generalize W.heap.size = gn at *
                    generalize W.alloc (.cells #[.int .i64 (at_ : Int), .string tA, .slice a5 l5.length c5, .string ⟨#[]⟩] 42) = W at *
                    refine wpAnyH_ready (rs := [11]) (by kernel_rfl) (by simp) (AllReadyH.cons rfl (fun K hK => ?_) AllReadyH.nil)
                    · refine Nd.step_join rfl (.tmp 31) (.tmp 41) rfl w.heap.size (.slice av (m + 1) cv) es [⟨⟨(at_ : Int), tA, l5, ⟨#[]⟩⟩, a5, c5⟩] (by simp [Act.eval, Act.put]) HSA.out.row gn 1 1 (by simp [Act.eval, Act.put]) rfl (one_cells HMN.out) (one_hf HOA2.out HAP.out.2) (List.pairwise_singleton _ _) (one_ap HAP.out.1) HNL.out HZW.out ?_
                      intro a7 c7 w7 hr7 hb7 hg7
                      have HR7 := hid hr7
                      have HG7 := hid hg7
                      clear hr7 hb7 hg7
                      refine hK.out _ _ trivial (fun _ => ?_)
                      clear hK K
                      try simp only [Act.put, List.setIfInBounds_toArray, List.set_cons_zero, List.set_cons_succ]
                      refine wpAnyH_ready (rs := [12]) (by kernel_rfl) (by simp) (AllReadyH.cons rfl (fun K hK => ?_) AllReadyH.nil)
                      · go_simp
                        refine hK.out _ _ trivial (fun _ => ?_)
                        clear hK K
                        try simp only [Act.put, List.setIfInBounds_toArray, List.set_cons_zero, List.set_cons_succ]
                        refine wpAnyH_done (by kernel_rfl) ?_ _
                        go_wp2_with fail
                        go_meet
                        exact ⟨a7, c7, ⟨⟨(at_ : Int), tA, l5, ⟨#[]⟩⟩, a5, c5⟩, by rw [HL.out], rfl, htP, by rw [← HL2.out ⟨⟨(at_ : Int), tA, l5, ⟨#[]⟩⟩, a5, c5⟩]; exact HSA.out.join HR7.out HG7.out HOW2.out HAO.out ⟨by show tA.size ≤ 20; omega, by show l5.length ≤ 20; omega, HSZ5.out, Nat.zero_le _⟩ (HSA.out.grn.keep rfl)⟩
            · go_simp
              refine (cDrawAttrs false w0 a len cap b _ hlen HR.out HS.out.c.cur).mono ?_
              rintro e W3 ⟨a5, c5, l5, rfl, hl5, hd5⟩
              have HOA := hid (dst_own hd5 HS.out.c.gr.size)
              have HOW := hid (own_mono hd5.own HS.out.c.gr.size)
              have HSZ5 := hid hd5.sz
              have HAP := hid (ap_of HS.out.row (dst_own hd5 (Nat.le_refl _)))
              have HAO := hid (apo_of HS.out.own hd5.own)
              replace HS := hid (HS.out.draw hd5.cur hd5.gr)
              clear hd5
              go_wp2_with fail
              refine hK.out _ _ trivial (fun _ => ?_)
              clear hK K
              try simp only [Act.put, List.setIfInBounds_toArray, List.set_cons_zero, List.set_cons_succ]
              generalize W3 = W at *
              refine wpAnyH_ready (rs := [2]) (by kernel_rfl) (by simp) (AllReadyH.cons rfl (fun K hK => ?_) AllReadyH.nil)
              · have HTB := hid (show ¬ W.heap.size = b by have := HS.out.c.gr.size; have := HS.out.c.lt; omega)
                go_simp
                refine hK.out _ _ trivial (fun _ => ?_)
                clear hK K
                try simp only [Act.put, List.setIfInBounds_toArray, List.set_cons_zero, List.set_cons_succ]
                have HT := hid (heap_alloc_new W (.cells #[.string ⟨#[97]⟩, .string ⟨#[98]⟩, .string ⟨#[112, 58, 97]⟩, .string ⟨#[113, 58, 98]⟩, .string ⟨#[99]⟩] 9))
                replace HS := hid (HS.out.alloc (.cells #[.string ⟨#[97]⟩, .string ⟨#[98]⟩, .string ⟨#[112, 58, 97]⟩, .string ⟨#[113, 58, 98]⟩, .string ⟨#[99]⟩] 9))
                replace HOA := hid (HOA.out.below ((Below.refl _ _).alloc (Nat.le_refl _) (.cells #[.string ⟨#[97]⟩, .string ⟨#[98]⟩, .string ⟨#[112, 58, 97]⟩, .string ⟨#[113, 58, 98]⟩, .string ⟨#[99]⟩] 9)))
                replace HOW := hid (HOW.out.alloc (.cells #[.string ⟨#[97]⟩, .string ⟨#[98]⟩, .string ⟨#[112, 58, 97]⟩, .string ⟨#[113, 58, 98]⟩, .string ⟨#[99]⟩] 9))
                generalize W.heap.size = tb at *
                generalize W.alloc (.cells #[.string ⟨#[97]⟩, .string ⟨#[98]⟩, .string ⟨#[112, 58, 97]⟩, .string ⟨#[113, 58, 98]⟩, .string ⟨#[99]⟩] 9) = W at *
                refine wpAnyH_take (i := 5) (v := ?_) rfl (by kernel_rfl) (by kernel_rfl) (by kernel_rfl) (fun _ _ _ h => h) (Or.inl ⟨by rfl, ?_⟩) trivial ?_
                rotate_left
                · intro w hSw
                  go_simp
                  try (with_reducible rfl)
                try simp only [Act.put, List.setIfInBounds_toArray, List.set_cons_zero, List.set_cons_succ]
                refine wpAnyH_ready (rs := [6]) (by kernel_rfl) (by simp) (AllReadyH.cons rfl (fun K hK => ?_) AllReadyH.nil)
                · obtain ⟨tA, hcA, htA, htP⟩ := tab5_at _ tb x hx HT.out
                  go_simp
                  refine hK.out _ _ trivial (fun _ => ?_)
                  clear hK K
                  try simp only [Act.put, List.setIfInBounds_toArray, List.set_cons_zero, List.set_cons_succ]
                  clear hcA
                  refine wpAnyH_take (i := 9) (v := ?_) rfl (by kernel_rfl) (by kernel_rfl) (by kernel_rfl) (fun _ _ _ h => h) (Or.inl ⟨by rfl, ?_⟩) trivial ?_
                  rotate_left
                  · intro w hSw
                    go_simp
                    try (with_reducible rfl)
                  try simp only [Act.put, List.setIfInBounds_toArray, List.set_cons_zero, List.set_cons_succ]
                  refine wpAnyH_ready (rs := [10]) (by kernel_rfl) (by simp) (AllReadyH.cons rfl (fun K hK => ?_) AllReadyH.nil)
                  · have HMN := hid (heap_alloc_new W (.cells #[.int .i64 (at_ : Int), .string tA, .slice a5 l5.length c5, .string ⟨#[]⟩] 42))
                    have HSA := hid (HS.out.alloc (.cells #[.int .i64 (at_ : Int), .string tA, .slice a5 l5.length c5, .string ⟨#[]⟩] 42))
                    have HOA2 := hid (HOA.out.below ((Below.refl _ _).alloc (Nat.le_refl _) (.cells #[.int .i64 (at_ : Int), .string tA, .slice a5 l5.length c5, .string ⟨#[]⟩] 42)))
                    have HOW2 := hid (HOW.out.alloc (.cells #[.int .i64 (at_ : Int), .string tA, .slice a5 l5.length c5, .string ⟨#[]⟩] 42))
                    have HZW := hid (show w.heap.size ≤ (W.alloc (.cells #[.int .i64 (at_ : Int), .string tA, .slice a5 l5.length c5, .string ⟨#[]⟩] 42)).heap.size from HSA.out.c.gr.size)
                    go_simp
                    refine hK.out _ _ trivial (fun _ => ?_)
                    clear hK K
                    try simp only [Act.put, List.setIfInBounds_toArray, List.set_cons_zero, List.set_cons_succ]
                    generalize W.heap.size = gn at *
                    generalize W.alloc (.cells #[.int .i64 (at_ : Int), .string tA, .slice a5 l5.length c5, .string ⟨#[]⟩] 42) = W at *
                    refine wpAnyH_ready (rs := [11]) (by kernel_rfl) (by simp) (AllReadyH.cons rfl (fun K hK => ?_) AllReadyH.nil)
                    · refine Nd.step_join rfl (.tmp 31) (.tmp 41) rfl w.heap.size (.slice av (m + 1) cv) es [⟨⟨(at_ : Int), tA, l5, ⟨#[]⟩⟩, a5, c5⟩] (by simp [Act.eval, Act.put]) HSA.out.row gn 1 1 (by simp [Act.eval, Act.put]) rfl (one_cells HMN.out) (one_hf HOA2.out HAP.out.2) (List.pairwise_singleton _ _) (one_ap HAP.out.1) HNL.out HZW.out ?_
                      intro a7 c7 w7 hr7 hb7 hg7
                      have HR7 := hid hr7
                      have HG7 := hid hg7
                      clear hr7 hb7 hg7
                      refine hK.out _ _ trivial (fun _ => ?_)
                      clear hK K
                      try simp only [Act.put, List.setIfInBounds_toArray, List.set_cons_zero, List.set_cons_succ]
                      refine wpAnyH_ready (rs := [12]) (by kernel_rfl) (by simp) (AllReadyH.cons rfl (fun K hK => ?_) AllReadyH.nil)
                      · go_simp
                        refine hK.out _ _ trivial (fun _ => ?_)
                        clear hK K
                        try simp only [Act.put, List.setIfInBounds_toArray, List.set_cons_zero, List.set_cons_succ]
                        refine wpAnyH_done (by kernel_rfl) ?_ _
                        go_wp2_with fail
                        go_meet
                        exact ⟨a7, c7, ⟨⟨(at_ : Int), tA, l5, ⟨#[]⟩⟩, a5, c5⟩, by rw [HL.out], rfl, htP, by rw [← HL2.out ⟨⟨(at_ : Int), tA, l5, ⟨#[]⟩⟩, a5, c5⟩]; exact HSA.out.join HR7.out HG7.out HOW2.out HAO.out ⟨by show tA.size ≤ 20; omega, by show l5.length ≤ 20; omega, HSZ5.out, Nat.zero_le _⟩ (HSA.out.grn.keep rfl)⟩
      obtain ⟨a7, c7, e7, rfl, hk7, hn7, HN7⟩ := hcut
      have HNT := hid (show es.map (·.t) ++ [e7.t] = (es ++ [e7]).map (·.t) by rw [List.map_append]; rfl)
      have hl7 : (es ++ [e7]).length = m + 1 + 1 := by rw [List.length_append, HL.out]; rfl
      have HL7 := hid hl7
      clear hl7 HN3 M3 x0 x1 x2 x3
      go_wp2_with fail
      refine (cOnce 2 w0 a len cap b _ hlen HR.out HN7.out.c.cur (by omega) (by omega)).mono ?_
      rintro e w8 ⟨B8, rfl, hC8, hG8⟩
      have HN8 := hid (HN7.out.draw hC8 hG8)
      clear hC8 hG8
      cases B8
      · go_wp2_with fail
        go_roundw
        case rel => exact ⟨k1, es ++ [e7], at_, by go_num, by omega, rfl, by rw [HL7.out]; omega, HN8.out⟩
        case measure => first | (simp [intOf]; omega) | simp [intOf]
      · obtain ⟨av2, cv2, ev2, htk8⟩ := HN8.out.row.tkRow
        obtain ⟨rfl, rfl⟩ : a7 = av2 ∧ c7 = cv2 := by injection ev2 with h1 _ h3; exact ⟨h1, h3⟩
        have hl8 : ((es ++ [e7]).map (·.t)).length = m + 1 + 1 := by rw [List.length_map]; exact HL7.out
        have CD := hid (cDepthS a7 c7 ((es ++ [e7]).map (·.t)) (m + 1) w8 htk8 (by omega) (by omega) (fun t ht => by
          obtain ⟨e, he, rfl⟩ := List.mem_map.1 ht
          exact tkv_big (HN8.out.sz e he) (by decide)) HN8.out.grn.p0 (fun j hj => HN8.out.grn.up j (by omega)))
        rw [hl8] at CD
        generalize depI ((es ++ [e7]).map (·.t)) (m + 1) = D at *
        have hm2 : ((m + 1 + 1 : Nat) : Int) - 1 = ((m + 1 : Nat) : Int) := by omega
        clear htk8 ev2 hl8
        by_cases h9 : D < 9
        · have hd9 : decide (D < 9) = true := decide_eq_true h9
          have HG9 := hid (show Grn ((es ++ [e7]).map (·.t)) (m + 1) by
            rw [← HNT.out]
            have h := HN.out.grn.into hk7 hn7
            rw [HLM.out] at h
            exact h)
          go_wp2_with fail
          refine CD.out.mono ?_
          rintro e w9 ⟨rfl, rfl⟩
          go_wp2_with fail
          go_roundw
          case rel => exact ⟨k1, es ++ [e7], m + 1, by go_num, by omega, by go_num, by rw [HL7.out]; omega, ⟨HN8.out.c, HN8.out.row, HN8.out.sz, HG9.out, HN8.out.own, HN8.out.apo⟩⟩
          case measure => first | (simp [intOf]; omega) | simp [intOf]
        · have hd9 : decide (D < 9) = false := decide_eq_false h9
          go_wp2_with fail
          refine CD.out.mono ?_
          rintro e w9 ⟨rfl, rfl⟩
          go_wp2_with fail
          go_roundw
          case rel => exact ⟨k1, es ++ [e7], at_, by go_num, by omega, rfl, by rw [HL7.out]; omega, HN8.out⟩
          case measure => first | (simp [intOf]; omega) | simp [intOf]

end Go.Proofs.YteninofjeidljaaGreat
