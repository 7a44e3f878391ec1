/-  -/
import Derived.Test.YtoioiddjbanahaaGreatDoorM28
import Derived.Test.YtoioiddjbanahaaGreatDoorM32
import Derived.Test.YtoioiddjbanahaaGreatDoorM39
import Derived.Test.YtoioiddjbanahaaGreatDoorM4
import Derived.Deep.CutRange
import Derived.Deep.RegionHeld
set_option linter.unusedVariables false
set_option linter.unusedSimpArgs false
namespace Go.Proofs.YtoioiddjbanahaaGreatDoor

open Go.RowKit

theorem two_oneJ (s t : ByteArray) : ∀ u ∈ [Value.string s, .string t], u.oneCell' = true := by
 intro u hu
 simp only [List.mem_cons, List.not_mem_nil, or_false] at hu
 rcases hu with rfl | rfl <;> rfl

theorem ov_n {t : ByteArray} (h : t.size < 4) : ((⟨#[110]⟩ : ByteArray) ++ t).size <= 20 /\ ¬ 9223372036854775807 < (⟨#[110]⟩ : ByteArray).size + t.size /\ ¬ 9223372036854775807 < 1 + t.size := by
 rw [ByteArray.size_append, show (⟨#[110]⟩ : ByteArray).size = 1 from rfl]
 omega

theorem app_fin {w0 : World} {a : Option Addr} {len cap b : Nat} {wK W w7 : World} {g L cv x nA : Nat} {es : List Nd.E} {E : Nd.E} {s : ByteArray} {v7 : Value} (h : TSj 100 w0 a len cap b wK W g L cv es) (hx : x < es.length) (hE : es[x]'hx = E) (hn : E.t.attrs.length = nA) (h6 : nA < 6) (hz : s.size <= 20)
  (ho : w7.ownsRow wK.heap.size 67 2 v7 (nA + 1) (atC E.t.attrs ++ [.string ⟨#[73, 100]⟩, .string s])) (hg : W.grownBy w7 (Value.slice E.a nA E.cap).ownBlock) (hat : v7.ownBlock = (Value.slice E.a nA E.cap).ownBlock \/ v7.ownBlock = some W.heap.size) :
  (∃ es', TSj 100 w0 a len cap b wK (w7.setCell ⟨g, x * 4 + 2, none⟩ v7) g L cv es') /\ (w7.frozen? ⟨g, x * 4 + 2, none⟩ = false /\ ∃ u, w7.cell? ⟨g, x * 4 + 2, none⟩ = some u) /\ ∃ a7 c7, v7 = .slice a7 (nA + 1) c7 := by
 subst hn
 subst hE
 obtain ⟨a7, c7, hv7⟩ := own_len ho
 refine ⟨h.app hx h6 (by decide) (y := ⟨⟨#[73, 100]⟩, s⟩) ⟨by show 2 <= 100; decide, by show s.size <= 100; omega⟩ ho hg hat _ _ hv7, ?_, a7, c7, hv7⟩
 have hr := own_grownR h.row hg (own_kind (h.oe.own _ (List.getElem_mem hx))) (by decide)
 have := slot_own hr h.hL hx
 exact ⟨this.2 _, _, this.1.2.2.1⟩

theorem key_below {n e d : Int} (h : kb n /\ kb e /\ kb d) : e <= 9223372036854775807 /\ d <= 9223372036854775807 := by
 unfold kb at h
 omega

set_option maxRecDepth 8000 in
set_option maxHeartbeats 16000000 in
theorem cDraw13 (w0 : World) (a : Option Addr) (len cap b : Nat) (w : World) (hlen : len <= 4096) (hcr : CodeRow w0 a len) (hC : Cur w0 a len cap b w) :
  Calls Tryz.prog 46 #[.pointer (some ⟨b, 0, none⟩)] w fun r w' => ∃ (g L cv : Nat) (es : List Nd.E) (n e d : Int), r = .returned (.tuple #[.slice (some ⟨g, 0, none⟩) L cv, .agg #[.int .i64 n, .int .i64 e, .int .i64 d]]) /\ (kb n /\ kb e /\ kb d) /\ 1 <= L /\ L <= 50 /\ TSj 100 w0 a len cap b w w' g L cv es := by
 have HR := hid hcr
 have hbl : b < w.heap.size := by obtain ⟨i, h, _, _, hh⟩ := hC.2.2; exact lt_of_heap hh
 have HS0 := hid (show CSt w0 a len cap b w w from ⟨hC, ⟨rfl, rfl, rfl, Nat.le_refl _, fun _ _ _ => rfl⟩, hbl, hC.2.1.size⟩)
 obtain ⟨i0, hi, hz0, hz1, hz2⟩ := info_parts infoAtW
 have HI := hid (And.intro hi (And.intro hz0 (And.intro hz1 hz2)))
 clear hcr hi hz0 hz1 hz2
 have S1 := hid (HS0.out.alloc (.cells #[.int .i64 0, .int .i64 0, .int .i64 0] 26))
 have M3 := hid (box_w3 w (.int .i64 0) (.int .i64 0) (.int .i64 0) 26)
 clear hC
 go_enter Tryz.func46, Tryz.ntmps46
 go_wp2_with fail
 refine (cBelow 2 w0 a len cap b _ hlen HR.out S1.out.cur (by decide) (by decide)).mono ?_
 rintro r w1 ⟨y, rfl, hy, hC1, hG1⟩
 have S2 := hid (S1.out.draw hC1 hG1)
 have M3a := hid (show w1.heap[w.heap.size]? = some (.cells #[.int .i64 0, .int .i64 0, .int .i64 0] 26 (0, 0)) from (hG1.block _ (lt_of_heap M3.out) (fun e => by have := Option.some.inj e; omega)).trans M3.out)
 clear hC1 hG1 S1 M3
 go_wp2_with fail
 refine (cL6Key y (by omega) _).mono ?_
 rintro r w2 ⟨n, e, d, rfl, hkb, hb2⟩
 have S3 := hid ((S2.out.belowJ hb2).alloc (.cells #[.int .i64 n, .int .i64 e, .int .i64 d] 26))
 obtain ⟨wK, hwK⟩ : ∃ wK, w2.alloc (.cells #[.int .i64 n, .int .i64 e, .int .i64 d] 26) = wK := ⟨_, rfl⟩
 have M4 := hid (show wK.heap[w2.heap.size]? = some (.cells #[.int .i64 n, .int .i64 e, .int .i64 d] 26 (0, 0)) by rw [<- hwK]; exact box_w3 w2 _ _ _ _)
 have M3b := hid (show wK.heap[w.heap.size]? = some (.cells #[.int .i64 0, .int .i64 0, .int .i64 0] 26 (0, 0)) by rw [<- hwK]; exact blk_alloc (blk_below M3a.out hb2) _)
 rw [hwK] at S3
 have HKB := hid hkb
 have hb4 : ¬ w2.heap.size = b := by have := S2.out.gr.size; have := hb2.size; omega
 clear hb2 S2 M3a hkb
 go_wp2_with fail
 refine (cDraw8 w0 a len cap b _ hlen HR.out S3.out.cur).mono ?_
 rintro r w4 ⟨a', c', es, at_, rfl, hl1, hl2, hN⟩
 obtain ⟨g, rfl, hT0⟩ := hN.toJ hl1
 have HT4 := hid (hT0.more (by decide : 20 <= 100))
 obtain ⟨L, hLe⟩ : ∃ L, es.length = L := ⟨_, rfl⟩
 rw [hLe] at HT4 hl1 hl2 ⊢
 clear hN hT0 hLe at_
 go_wp2_with fail
 refine (cBelow 3 w0 a len cap b _ hlen HR.out HT4.out.c.cur (by decide) (by decide)).mono ?_
 rintro r w5 ⟨n0, rfl, hn0, hC5, hG5⟩
 have HT5 := hid (HT4.out.draw hC5 hG5)
 clear hC5 hG5 HT4
 go_wp2_with fail
 go_loopw [5, 6] (fun v5 v6 wr => ∃ (g L cv : Nat) (es : List Nd.E) (m : Int), v5 = .slice (some ⟨g, 0, none⟩) L cv /\ v6 = .int .i64 m /\ (-1 <= m /\ m <= 2) /\ 1 <= L /\ L <= 50 /\ Hid (TSj 100 w0 a len cap b wK wr g L cv es)) (fun _ v6 _ => (intOf v6 + 1).toNat)
 case atStart => exact ⟨g, L, c', es, n0, rfl, rfl, ⟨by omega, by omega⟩, hl1, by omega, HT5.out⟩
 case round =>
  clear HT5 hl1 hl2 hn0 hy
  obtain ⟨g, L, cv, es, m, rfl, rfl, hm, h1, h50, HT⟩ := hrel
  by_cases h0 : 0 <= m
  ·have hLL : (L : Int) <= 50 := by omega
   go_wp2_with fail
   refine (cBelow L w0 a len cap b _ hlen HR.out HT.out.c.cur h1 (by omega)).mono ?_
   rintro r w6 ⟨x, rfl, hx, hC6, hG6⟩
   have HT6 := hid (HT.out.draw hC6 hG6)
   have hxe : x < es.length := by rw [HT6.out.hL]; exact hx
   have HX := hid hxe
   have hxL : (x : Int) < (L : Int) := by omega
   have HSL := hid (HT6.out.slot hxe)
   have CV := hid (cValueInS (es[x]'hxe).a (es[x]'hxe).cap (es[x]'hxe).t.attrs idS w6 (own_atR (HT6.out.oe.own _ (List.getElem_mem hxe)) rfl).atRow (fun y hy => by have := (HT6.out.sz _ (List.getElem_mem hxe)).2.2.1 y hy; omega) (by have := (HT6.out.sz _ (List.getElem_mem hxe)).2.1; omega) (by decide))
   have HAL := hid (HT6.out.sz _ (List.getElem_mem hxe)).2.1
   obtain ⟨E, hE⟩ : ∃ E : Nd.E, es[x]'hxe = E := ⟨_, rfl⟩
   have HE := hid hE
   rw [hE] at HSL CV HAL
   clear hE
   obtain ⟨⟨s0, s1, s2, s3⟩, sf⟩ := HSL.out
   have E1 := empty_is E.t.name
   obtain ⟨nA, hnA⟩ : ∃ nA, E.t.attrs.length = nA := ⟨_, rfl⟩
   have HNA := hid hnA
   rw [hnA] at s2 CV
   generalize (valF E.t.attrs idS).getD ByteArray.empty = V0 at *
   generalize (valF E.t.attrs idS).isSome = IS at *
   generalize decide (E.t.name.size = 0) = NE at *
   obtain ⟨nm, hnm⟩ : ∃ nm, E.t.name = nm := ⟨_, rfl⟩
   rw [hnm] at s1 E1
   clear hC6 hG6 HT hnA hnm s0 s3 HSL
   go_wp2_with fail
   refine CV.out.mono ?_
   rintro r w7 ⟨rfl, rfl⟩
   clear CV
   go_upto_region 8 with fail
   obtain ⟨B, hB⟩ : ∃ B : Bool, (!IS && (!NE && decide (nA < 6))) = B := ⟨_, rfl⟩
   have HBB := hid hB
   go_cut [52] from 35 to 51 (fun c wv => c = .bool B /\ wv = w7)
   case first =>
    subst hB
    cases IS with
    | true =>
     go_wp2_with fail
     go_meet
     exact ⟨rfl, rfl⟩
    | false =>
     cases NE with
     | true =>
      go_wp2_with fail
      go_meet
      exact ⟨rfl, rfl⟩
     | false =>
      by_cases h6 : nA < 6
      case neg =>
       have h6' : (6 : Int) <= (nA : Int) := by omega
       have h6d : decide (nA < 6) = false := decide_eq_false h6
       have h6i : decide ((nA : Int) < 6) = false := decide_eq_false (by omega)
       go_wp2_with fail
       go_meet
       exact ⟨by rw [h6d]; rfl, rfl⟩
      case pos =>
       have h6' : (nA : Int) < 6 := by omega
       have h6d : decide (nA < 6) = true := decide_eq_true h6
       go_wp2_with fail
       go_meet
       exact ⟨by rw [h6d]; rfl, rfl⟩
   obtain ⟨rfl, rfl⟩ := hcut
   clear hB
   go_upto_if 52 with fail
   go_cut [53] from 54 to 67 (fun _ wv => Hid (∃ es', TSj 100 w0 a len cap b wK wv g L cv es'))
   case first =>
    cases B with
    | false =>
     go_wp2_with fail
     go_meet
     exact ⟨_, HT6.out⟩
    | true =>
     have h6 : nA < 6 := by
      have h := HBB.out
      rw [Bool.and_eq_true, Bool.and_eq_true, decide_eq_true_eq] at h
      exact h.2.2
     go_wp2_with fail
     have HS := hid (show TSj 100 w0 a len cap b wK wc.drew g L cv es from HT6.out.drewN 1)
     have cA := (HS.out.slot HX.out).1.2.2.1
     rw [HE.out] at cA
     simp only [HNA.out] at cA
     have CT := hid (fun (wx : World) (h : TSj 100 w0 a len cap b wK wx g L cv es) => (show Calls Tryz.prog 92 #[.pointer (some ⟨b, 0, none⟩), .string ⟨#[48, 49, 50, 51, 52, 53, 54, 55, 56, 57]⟩, .int .i64 4] wx fun r w' => ∃ t : ByteArray, r = .returned (.string t) /\ (¬ 9223372036854775807 < 1 + t.size /\ ((⟨#[110]⟩ : ByteArray) ++ t).size <= 20) /\ TSj 100 w0 a len cap b wK w' g L cv es /\ w'.cell? ⟨g, x * 4 + 2, none⟩ = some (.slice E.a nA E.cap) /\ (∀ o, (w'.alloc o).cell? ⟨g, x * 4 + 2, none⟩ = some (.slice E.a nA E.cap)) by
      refine (cText ⟨#[48, 49, 50, 51, 52, 53, 54, 55, 56, 57]⟩ 4 w0 a len cap b wx (by decide) (by decide) (by decide) (by decide) hlen HR.out h.c.cur).mono ?_
      rintro r w7 ⟨t, rfl, ht, hC7, hG7⟩
      have h7 := h.draw hC7 hG7
      have cB := (h7.slot HX.out).1.2.2.1
      rw [HE.out] at cB
      simp only [HNA.out] at cB
      exact ⟨t, rfl, ⟨(ov_n ht).2.2, (ov_n ht).1⟩, h7, cB, fun o => ((Below.refl w7.heap.size w7).alloc (Nat.le_refl _) o).cell (p := ⟨g, x * 4 + 2, none⟩) h7.lt.2 |>.trans cB⟩))
     clear s1 s2 sf E1
     go_region_law (first
      | (refine step_app_at rfl (.tmp 59) (.tmp 64) 30 rfl wK.heap.size 67 i0 _ 2 32 Tryz.underlying30 HI.out.1 HI.out.2.1 HI.out.2.2.1 HI.out.2.2.2 rfl (by decide) (.slice E.a nA E.cap) nA (atC E.t.attrs) (by simp [Act.eval, Act.put]) (by rw [<- HNA.out, <- HE.out]; exact (HS.out.alloc (.cells #[.string ⟨#[73, 100]⟩, .string ((⟨#[110]⟩ : ByteArray) ++ tN)] 67)).oe.own _ (List.getElem_mem HX.out)) ⟨W2.heap.size, 0, none⟩ 1 1 [.string ⟨#[73, 100]⟩, .string ((⟨#[110]⟩ : ByteArray) ++ tN)] (by simp [Act.eval, Act.put]) rfl (two_cells _ _ _ _) (two_oneJ _ _) (by have := HAL.out; rw [HNA.out] at this; unfold maxLen; omega) (by have := HAL.out; rw [HNA.out] at this; omega) (HS.out.alloc (.cells #[.string ⟨#[73, 100]⟩, .string ((⟨#[110]⟩ : ByteArray) ++ tN)] 67)).c.gr.size ?_; intro v7 w7 hown7 hgrow7 hat7; obtain ⟨H7, HSF, hv7⟩ := app_fin (HS.out.alloc (.cells #[.string ⟨#[73, 100]⟩, .string ((⟨#[110]⟩ : ByteArray) ++ tN)] 67)) HX.out HE.out HNA.out h6 hz6 hown7 hgrow7 hat7; obtain ⟨a7, c7, rfl⟩ := hv7; obtain ⟨sf2, u2, s2⟩ := HSF; have HH7 := hid H7; clear H7 hown7 hgrow7 hat7)
      | (go_simp; go_at_call 92; refine (CT.out _ HS.out).mono ?_; rintro r W2 ⟨tN, rfl, ⟨hov2, hz6⟩, hS7, cB, cC⟩; replace HS := hid hS7; clear hS7))
     all_goals (go_wp2_with fail; go_meet; exact HH7.out)
   case rest =>
    obtain ⟨es7, hT7⟩ := hcut.out
    have HT7 := hid hT7
    have MK := hid ((hT7.c.gr.block _ (lt_of_heap M4.out) (fun e => hb4 (Option.some.inj e))).trans M4.out)
    obtain ⟨z0, z1, z2⟩ := (box3e MK.out).1
    obtain ⟨ts, hts⟩ : ∃ ts, es7.map (·.t) = ts := ⟨_, rfl⟩
    have hlt : ts.length = L := by rw [<- hts, List.length_map]; exact hT7.hL
    have hz7 : TksSz 100 ts := fun t ht => by
     rw [<- hts] at ht
     obtain ⟨e', he', rfl⟩ := List.mem_map.1 ht
     exact hT7.sz e' he'
    have htk := hT7.tk
    rw [hts] at htk
    have CS := hid (cSealingS (some ⟨g, 0, none⟩) cv ts (x : Int) n e d _ htk (by rw [hlt]; exact hT7.room.1) hT7.room.2 (by omega) (fun t ht => by
     obtain ⟨q1, q2, q3, q4⟩ := hz7 t ht
     exact ⟨by omega, by omega, fun y hy => by have := q3 y hy; omega, by omega⟩) (key_below HKB.out).2)
    rw [hlt] at CS
    have HSL := hid (seal_len (x := (x : Int)) (kn := n) (ke := e) (kd := d) (show ts.length <= 50 by omega) hz7)
    obtain ⟨R, hR⟩ : ∃ R, sealingL ts (x : Int) n e d = R := ⟨_, rfl⟩
    rw [hR] at CS HSL
    generalize sealingB ts (x : Int) n e d = SB at *
    clear hcut hT7 htk hz7 hlt hts hR HT6 E1 s1 s2 sf HAL HE HNA HBB MK
    go_wp2_with fail
    refine CS.out.mono ?_
    rintro r w8 ⟨v8, rfl, hr8⟩
    have S8 := hid (HT7.out.c.belowJ hr8.bel)
    clear CS z0 z1 z2
    by_cases hR0 : R.length = 0
    ·obtain ⟨a8, c8, hv8, -⟩ := hr8.tk
     rw [hR0] at hv8
     subst hv8
     clear hr8 HSL hR0 HT7
     go_wp2_with fail
     refine (cDraw8 w0 a len cap b _ hlen HR.out S8.out.cur).mono ?_
     rintro r w9 ⟨a9, c9, es9, at9, rfl, hl1, hl2, hN⟩
     obtain ⟨g9, rfl, hT9⟩ := hN.toJ hl1
     have HT9 := hid ((hT9.base S8.out).more (by decide : 20 <= 100))
     obtain ⟨L9, hL9⟩ : ∃ L9, es9.length = L9 := ⟨_, rfl⟩
     rw [hL9] at HT9 hl1 hl2 ⊢
     clear hN hT9 hL9 S8
     go_wp2_with fail
     go_roundw
     case rel => exact ⟨g9, L9, c9, es9, m - 1, rfl, by go_num, ⟨by omega, by omega⟩, hl1, by omega, HT9.out⟩
     case measure => simp [intOf]; omega
    ·obtain ⟨g8, cv8, es8, hv8, -, hT8⟩ := hr8.toJ HT7.out.c (by omega) HSL.out.2
     have HT8 := hid hT8
     have hR50 := HSL.out.1
     subst hv8
     obtain ⟨L8, hL8⟩ : ∃ L8, R.length = L8 := ⟨_, rfl⟩
     rw [hL8] at HT8 hR0 hR50 ⊢
     have hR1 : ((L8 : Int) == 0) = false := by simp; omega
     clear hr8 HSL hT8 HT7 S8 hL8
     go_wp2_with fail
     go_roundw
     case rel => exact ⟨g8, L8, cv8, es8, m - 1, rfl, by go_num, ⟨by omega, by omega⟩, by omega, hR50, HT8.out⟩
     case measure => simp [intOf]; omega
  ·have hm1 : m = -1 := by omega
   subst hm1
   have MK := hid ((HT.out.c.gr.block _ (lt_of_heap M4.out) (fun e => hb4 (Option.some.inj e))).trans M4.out)
   have MO := hid ((HT.out.c.gr.block _ (lt_of_heap M3b.out) (fun e => by have := Option.some.inj e; omega)).trans M3b.out)
   obtain ⟨z0, z1, z2⟩ := (box3e MK.out).1
   obtain ⟨⟨y0, y1, y2⟩, f0, f1, f2⟩ := box3e MO.out
   go_wp2_with fail
   go_region
   go_wp2_with fail
   refine bodyPost_ret (v := .tuple #[.slice (some ⟨g, 0, none⟩) L cv, .agg #[.int .i64 n, .int .i64 e, .int .i64 d]]) (by simp [results, Tryz.results46, go_sem, y0, y1, y2]) rfl ⟨g, L, cv, es, n, e, d, rfl, HKB.out, h1, h50, ?_⟩
   refine HT.out.out S3.out (Nat.le_refl _) (lt_of_heap M3b.out) (by omega) ?_
   exact gtrans (gtrans (gtrans (Lib.grownBy_setCell _ _ _ _) (Lib.grownBy_setCell _ _ _ _)) (Lib.grownBy_setCell _ _ _ _)) (grown_of_belowJ (Below.refl _ _).drew _)

end Go.Proofs.YtoioiddjbanahaaGreatDoor

namespace Go.Proofs.YtoioiddjbanahaaGreatDoor

open Go.RowKit

theorem blk_set {w : World} {k g j : Nat} {o : Obj} {u : Value} (h : w.heap[k]? = some o) (hne : ¬ g = k) : (w.setCell ⟨g, j, none⟩ u).heap[k]? = some o := by
 have := (Lib.grownBy_setCell w g j u).block k (lt_of_heap h) (fun e => hne (Option.some.inj e).symm)
 exact this.trans h

theorem key_row {w : World} {B s n : Nat} {E : TypeId} {v : Value} {xs : List Value} {k g : Nat} {c : Array Value} (h : w.ownsRow B E s v n xs) (hv : v.ownBlock = some g) (hk : w.heap[k]? = some (.cells c 26 (0, 0))) (hE : E ≠ 26) : ¬ g = k := fun e => by
 subst e
 obtain ⟨c', fz, hh⟩ := own_kind h _ hv
 rw [hh] at hk
 injection hk with hk
 injection hk with _ h2 _
 exact hE h2

theorem TSj.other {z : Nat} {w0 : World} {a : Option Addr} {len cap b : Nat} {w wr w' : World} {g L cv : Nat} {es : List Nd.E} (h : TSj z w0 a len cap b w wr g L cv es) {k : Nat} {c : Array Value} (hk : wr.heap[k]? = some (.cells c 26 (0, 0))) (hkb : ¬ k = b) (h1 : w.heap.size <= k) (hg : wr.grownBy w' (some k)) : TSj z w0 a len cap b w w' g L cv es :=
 ⟨⟨h.c.cur.grown hg (fun e => hkb (Option.some.inj e).symm) (fun i e => by have := Option.some.inj e; have := h.c.le; omega), g_own h.c.gr hg (fun i e => by have := Option.some.inj e; omega), h.c.lt, h.c.le⟩, h.hL, h.row.kept hg (.inr (fun x => key_row h.row x hk (by decide) rfl)), ⟨fun e he => (h.oe.own e he).kept hg (.inr (fun x => key_row (h.oe.own e he) x hk (by decide) rfl)), h.oe.apo⟩, h.sz⟩

set_option maxRecDepth 8000 in
set_option maxHeartbeats 16000000 in
theorem cDraw13Any (w0 : World) (a : Option Addr) (len cap b : Nat) (w : World) (hlen : len <= 4096) (hcr : CodeRow w0 a len) (hC : Cur w0 a len cap b w) :
  Calls Tryz.prog 20 #[.pointer (some ⟨b, 0, none⟩)] w fun r w' => ∃ (g L cv : Nat) (es : List Nd.E) (n e d : Int), r = .returned (.tuple #[.slice (some ⟨g, 0, none⟩) L cv, .agg #[.int .i64 n, .int .i64 e, .int .i64 d]]) /\ (kb n /\ kb e /\ kb d) /\ 1 <= L /\ L <= 50 /\ TSj 200 w0 a len cap b w w' g L cv es := by
 have HR := hid hcr
 have hbl : b < w.heap.size := by obtain ⟨i, h, _, _, hh⟩ := hC.2.2; exact lt_of_heap hh
 have HS0 := hid (show CSt w0 a len cap b w w from ⟨hC, ⟨rfl, rfl, rfl, Nat.le_refl _, fun _ _ _ => rfl⟩, hbl, hC.2.1.size⟩)
 have S1 := hid (HS0.out.alloc (.cells #[.int .i64 0, .int .i64 0, .int .i64 0] 26))
 have M3 := hid (box_w3 w (.int .i64 0) (.int .i64 0) (.int .i64 0) 26)
 obtain ⟨W0, hW0⟩ : ∃ W0, w.alloc (.cells #[.int .i64 0, .int .i64 0, .int .i64 0] 26) = W0 := ⟨_, rfl⟩
 rw [hW0] at S1 M3
 clear hC hcr
 go_enter Tryz.func20, Tryz.ntmps20
 go_wp2_with fail
 refine (cDraw13 w0 a len cap b _ hlen HR.out S1.out.cur).mono ?_
 rintro r w1 ⟨g, L, cv, es, n, e, d, rfl, hkb, h1, h50, hT⟩
 have HKB := hid hkb
 have HT1 := hid ((hT.more (by decide : 100 <= 150)).alloc (.cells #[.int .i64 n, .int .i64 e, .int .i64 d] 26))
 obtain ⟨w2, hw2⟩ : ∃ w2, w1.alloc (.cells #[.int .i64 n, .int .i64 e, .int .i64 d] 26) = w2 := ⟨_, rfl⟩
 have MK := hid (show w2.heap[w1.heap.size]? = some (.cells #[.int .i64 n, .int .i64 e, .int .i64 d] 26 (0, 0)) by rw [<- hw2]; exact box_w3 w1 _ _ _ _)
 rw [hw2] at HT1
 have hkb1 : ¬ w1.heap.size = b := by have := hT.c.gr.size; have := hT.c.lt; omega
 have hW01 : W0.heap.size <= w1.heap.size := hT.c.gr.size
 clear hT hkb
 go_wp2_with fail
 clear hw2
 refine (cOnce 4 w0 a len cap b _ hlen HR.out HT1.out.c.cur (by decide) (by decide)).mono ?_
 rintro r w3 ⟨O1, rfl, hC3, hG3⟩
 have HT3 := hid (HT1.out.draw hC3 hG3)
 have MK3 := hid ((hG3.block _ (lt_of_heap MK.out) (fun e => hkb1 (Option.some.inj e))).trans MK.out)
 clear hC3 hG3 HT1 MK
 go_upto_if 15 with fail
 go_cut [6, 7, 8] from 16 to 66 (fun _ _ _ wv => Hid (∃ es', TSj 200 w0 a len cap b W0 wv g L cv es' /\ wv.heap[w1.heap.size]? = some (.cells #[.int .i64 n, .int .i64 e, .int .i64 d] 26 (0, 0))))
 case first =>
  cases O1 with
  | false =>
   go_wp2_with fail
   go_meet
   exact ⟨es, HT3.out.more (by decide : 150 <= 200), MK3.out⟩
  | true =>
   go_wp2_with fail
   refine (cBelow L w0 a len cap b _ hlen HR.out HT3.out.c.cur h1 (by omega)).mono ?_
   rintro r w4 ⟨x, rfl, hx, hC4, hG4⟩
   have HT4 := hid (HT3.out.draw hC4 hG4)
   have MK4 := hid ((hG4.block _ (lt_of_heap MK3.out) (fun e => hkb1 (Option.some.inj e))).trans MK3.out)
   have hxe : x < es.length := by rw [HT4.out.hL]; exact hx
   have HX := hid hxe
   have hxL : (x : Int) < (L : Int) := by omega
   have HSL := hid (HT4.out.slot hxe)
   have HSZ := hid (HT4.out.sz _ (List.getElem_mem hxe))
   have HOW := hid (HT4.out.oe.own _ (List.getElem_mem hxe))
   obtain ⟨E, hE⟩ : ∃ E : Nd.E, es[x]'hxe = E := ⟨_, rfl⟩
   have HE := hid hE
   rw [hE] at HSL HSZ HOW
   clear hE
   obtain ⟨⟨s0, s1, s2, s3⟩, sf⟩ := HSL.out
   obtain ⟨nA, hnA⟩ : ∃ nA, E.t.attrs.length = nA := ⟨_, rfl⟩
   have HNA := hid hnA
   rw [hnA] at s2
   clear hC4 hG4 HT3 MK3 HSL hnA
   by_cases h0 : nA = 0
   ·have hd : ¬ 0 < nA := by omega
    have E1 := empty_is E.t.text
    by_cases hq : E.t.text.size = 0
    ·rw [decide_eq_true hq] at E1
     go_wp2_with fail
     go_meet
     exact ⟨es, HT4.out.more (by decide : 150 <= 200), MK4.out⟩
    ·rw [decide_eq_false hq] at E1
     obtain ⟨S6, hS6⟩ : ∃ S, E.t.text ++ (⟨#[122]⟩ : ByteArray) = S := ⟨_, rfl⟩
     have hz6 : S6.size = E.t.text.size + 1 := by rw [<- hS6, ByteArray.size_append]; rfl
     have hzt := HSZ.out.2.2.2
     have hov : ¬ 9223372036854775807 < E.t.text.size + (⟨#[122]⟩ : ByteArray).size := by rw [show (⟨#[122]⟩ : ByteArray).size = 1 from rfl]; omega
     have sf3 := sf (x * 4 + 3)
     have H5 := hid (show ∃ es', TSj 200 w0 a len cap b W0 (w4.setCell ⟨g, x * 4 + 3, none⟩ (.string S6)) g L cv es' by
      refine ⟨_, (HT4.out.more (by decide : 150 <= 200)).setF HX.out (f := 3) (u := .string S6) (t' := ⟨E.t.kind, E.t.name, E.t.attrs, S6⟩) (by decide) (by rw [HE.out]) (by rw [HE.out]; rfl) ?_⟩
      obtain ⟨q1, q2, q3, q4⟩ := HSZ.out
      exact ⟨by show E.t.name.size <= 200; omega, by show E.t.attrs.length <= 200; omega, fun y hy => by have := q3 y hy; omega, by show S6.size <= 200; omega⟩)
     have MK5 := hid (blk_set (g := g) (j := x * 4 + 3) (u := .string S6) MK4.out (key_row HT4.out.row rfl MK4.out (by decide)))
     clear hz6 hzt
     go_wp2_with fail
     go_meet
     obtain ⟨es', h5⟩ := H5.out
     exact ⟨es', h5, MK5.out⟩
   ·have hd : 0 < nA := by omega
    have CC := hid (cCopyO E.a E.cap E.t.attrs w4 (own_atR HOW.out rfl).atRow (by have := HSZ.out.2.1; omega))
    rw [HNA.out] at CC
    go_wp2_with fail
    refine CC.out.mono ?_
    rintro r w5 ⟨a5, c5, rfl, hO5, hb5⟩
    have HT5b := hid (HT4.out.below hb5)
    have sf5 := (HT5b.out.slot HX.out).2 (x * 4 + 2)
    have s5 := (HT5b.out.slot HX.out).1.2.2.1
    rw [HE.out, HNA.out] at s5
    have HO5 := hid hO5
    obtain ⟨es6, h6⟩ : ∃ es6, es6 = es.set x ⟨E.t, a5, c5⟩ := ⟨_, rfl⟩
    have HT6 := hid (show TSj 150 w0 a len cap b W0 (w5.setCell ⟨g, x * 4 + 2, none⟩ (.slice a5 nA c5)) g L cv es6 by
     have h := HT4.out.fresh HX.out hb5 (a7 := a5) (c7 := c5) (by rw [HE.out]; exact HO5.out)
     rw [HE.out, HNA.out, <- h6] at h
     exact h)
    have MK6 := hid (blk_set (g := g) (j := x * 4 + 2) (u := .slice a5 nA c5) (blk_below MK4.out hb5) (key_row HT5b.out.row rfl (blk_below MK4.out hb5) (by decide)))
    obtain ⟨w6, hw6⟩ : ∃ w6, w5.setCell ⟨g, x * 4 + 2, none⟩ (.slice a5 nA c5) = w6 := ⟨_, rfl⟩
    rw [hw6] at HT6 MK6
    have hx6 : x < es6.length := by rw [h6, List.length_set]; exact HX.out
    have hE6 : es6[x]'hx6 = ⟨E.t, a5, c5⟩ := by subst h6; rw [List.getElem_set_self]
    have HX6 := hid hx6
    have HE6 := hid hE6
    obtain ⟨g5, rfl⟩ : ∃ g5, a5 = some ⟨g5, 0, none⟩ := by
     rcases HO5.out.2.2 with ⟨_, h'⟩ | ⟨g5, cp, cur, e5, _⟩
     ·rw [HNA.out] at h'
      exact absurd h' h0
     ·cases e5
      exact ⟨g5, rfl⟩
    clear hO5 hb5 CC HT4 MK4 h6 hE6 HT5b s0 s1 s2 s3 sf
    go_wp2_with fail
    clear hw6 sf5 s5
    have HS := hid (show TSj 150 w0 a len cap b W0 w6.drew g L cv es6 from HT6.out.drewN 1)
    have MKc := hid (show (w6.drew).heap[w1.heap.size]? = some (.cells #[.int .i64 n, .int .i64 e, .int .i64 d] 26 (0, 0)) from MK6.out)
    have cA := (HS.out.slot HX6.out).1.2.2.1
    rw [HE6.out] at cA
    simp only [HNA.out] at cA
    have CB := hid (fun (wx : World) (h : TSj 150 w0 a len cap b W0 wx g L cv es6) (hk : wx.heap[w1.heap.size]? = some (.cells #[.int .i64 n, .int .i64 e, .int .i64 d] 26 (0, 0))) => (show Calls Tryz.prog 47 #[.pointer (some ⟨b, 0, none⟩), .int .i64 (nA : Int)] wx fun r w' => ∃ j : Nat, r = .returned (.int .i64 (j : Int)) /\ ((j : Int) < (nA : Int) /\ j < nA) /\ TSj 150 w0 a len cap b W0 w' g L cv es6 /\ w'.heap[w1.heap.size]? = some (.cells #[.int .i64 n, .int .i64 e, .int .i64 d] 26 (0, 0)) /\ w'.cell? ⟨g, x * 4 + 2, none⟩ = some (.slice (some ⟨g5, 0, none⟩) nA c5) by
     refine (cBelow nA w0 a len cap b wx hlen HR.out h.c.cur (by omega) (by have := HSZ.out.2.1; rw [HNA.out] at this; omega)).mono ?_
     rintro r w7 ⟨j, rfl, hj, hC7, hG7⟩
     have h7 := h.draw hC7 hG7
     have cB := (h7.slot HX6.out).1.2.2.1
     rw [HE6.out] at cB
     simp only [HNA.out] at cB
     exact ⟨j, rfl, ⟨by omega, hj⟩, h7, (hG7.block _ (lt_of_heap hk) (fun e => hkb1 (Option.some.inj e))).trans hk, cB⟩))
    go_region_with (go_at_call 47; refine (CB.out _ HS.out MKc.out).mono ?_; rintro r w7 ⟨j, rfl, ⟨hjn, hj⟩, hS7, hM7, cB⟩; replace HS := hid hS7; replace MKc := hid hM7; clear hS7 hM7)
    all_goals
     have HOJ := hid (HS.out.oe.own _ (List.getElem_mem HX6.out))
     rw [HE6.out] at HOJ
     obtain ⟨V1, cV, hV1⟩ : ∃ V1 : ByteArray, w7.cell? ⟨g5, j * 2 + 1, none⟩ = some (.string V1) /\ V1.size <= 150 := by
      have hjl : j < E.t.attrs.length := by rw [HNA.out]; exact hj
      obtain ⟨b1, o1, e1, _, _, q2⟩ := (own_atR HOJ.out rfl).atRow j hjl
      cases e1
      rw [Nat.zero_add] at q2
      exact ⟨_, q2, (HSZ.out.2.2.1 _ (List.getElem_mem hjl)).2⟩
     have sfV := (HOJ.out.frozenAt (j * 2 + 1))
     clear cA cB HT6 MK6
     go_wp2_with fail
     refine (cBend V1 ⟨#[48, 49, 50, 51, 52, 53, 54, 55, 56, 57, 97]⟩ w0 a len cap b _ (by omega) (by decide) (by decide) hlen HR.out HS.out.c.cur).mono ?_
     rintro r w8 ⟨V2, rfl, hV2, hC8, hG8⟩
     have HT8 := hid (HS.out.draw hC8 hG8)
     have MK8 := hid ((hG8.block _ (lt_of_heap MKc.out) (fun e => hkb1 (Option.some.inj e))).trans MKc.out)
     have HO8 := hid (HT8.out.oe.own _ (List.getElem_mem HX6.out))
     rw [HE6.out] at HO8
     have sf8 := (HO8.out.frozenAt (j * 2 + 1))
     have c8 : ∃ u, w8.cell? ⟨g5, j * 2 + 1, none⟩ = some u := by
      have hjl : j < E.t.attrs.length := by rw [HNA.out]; exact hj
      obtain ⟨b1, o1, e1, _, _, q2⟩ := (own_atR HO8.out rfl).atRow j hjl
      cases e1
      rw [Nat.zero_add] at q2
      exact ⟨_, q2⟩
     obtain ⟨u8, c8⟩ := c8
     have H9 := hid (show ∃ es', TSj 200 w0 a len cap b W0 (w8.setCell ⟨g5, j * 2 + 1, none⟩ (.string V2)) g L cv es' by
      exact (HT8.out.more (by decide : 150 <= 200)).setV HX6.out (g1 := g5) (by rw [HE6.out]) (j := j) (by rw [HE6.out]; show j < E.t.attrs.length; rw [HNA.out]; exact hj) (by omega))
     have MK9 := hid (blk_set (g := g5) (j := j * 2 + 1) (u := .string V2) MK8.out (key_row HO8.out rfl MK8.out (by decide)))
     clear hC8 hG8 cV sfV
     go_wp2_with fail
     go_meet
     obtain ⟨es', h9⟩ := H9.out
     exact ⟨es', h9, MK9.out⟩
 case rest =>
  obtain ⟨es3, hT3, hM3⟩ := hcut.out
  have HT5 := hid hT3
  have MK5 := hid hM3
  clear hcut hT3 hM3 HT3 MK3
  go_wp2_with fail
  refine (cOnce 8 w0 a len cap b _ hlen HR.out HT5.out.c.cur (by decide) (by decide)).mono ?_
  rintro r w6 ⟨O2, rfl, hC6, hG6⟩
  have HT6 := hid (HT5.out.draw hC6 hG6)
  have MK6 := hid ((hG6.block _ (lt_of_heap MK5.out) (fun e => hkb1 (Option.some.inj e))).trans MK5.out)
  clear hC6 hG6 HT5 MK5
  cases O2 with
  | false =>
   have MO := hid ((HT6.out.c.gr.block _ (lt_of_heap M3.out) (fun e => by have := Option.some.inj e; omega)).trans M3.out)
   obtain ⟨z0, z1, z2⟩ := (box3e MK6.out).1
   obtain ⟨⟨y0, y1, y2⟩, f0, f1, f2⟩ := box3e MO.out
   go_wp2_with fail
   go_region
   go_wp2_with fail
   refine bodyPost_ret (v := .tuple #[.slice (some ⟨g, 0, none⟩) L cv, .agg #[.int .i64 n, .int .i64 e, .int .i64 d]]) (by simp [results, Tryz.results20, go_sem, y0, y1, y2]) rfl ⟨g, L, cv, es3, n, e, d, rfl, HKB.out, h1, h50, ?_⟩
   refine HT6.out.out S1.out (Nat.le_refl _) (lt_of_heap M3.out) (by omega) ?_
   exact gtrans (gtrans (gtrans (Lib.grownBy_setCell _ _ _ _) (Lib.grownBy_setCell _ _ _ _)) (Lib.grownBy_setCell _ _ _ _)) (grown_of_belowJ (Below.refl _ _).drew _)
  | true =>
   go_wp2_with fail
   refine (cL6Draw w0 a len cap b _ hlen HR.out HT6.out.c.cur).mono ?_
   rintro r w7 ⟨n2, e2, d2, rfl, hkb2, hC7, hG7⟩
   have HT7 := hid (HT6.out.draw hC7 hG7)
   have MK7 := hid ((hG7.block _ (lt_of_heap MK6.out) (fun e => hkb1 (Option.some.inj e))).trans MK6.out)
   obtain ⟨⟨k0, k1, k2⟩, kf0, kf1, kf2⟩ := box3e MK7.out
   have HK2 := hid hkb2
   have hg8 : w7.grownBy (((w7.setCell ⟨w1.heap.size, 0, none⟩ (.int .i64 n2)).setCell ⟨w1.heap.size, 1, none⟩ (.int .i64 e2)).setCell ⟨w1.heap.size, 2, none⟩ (.int .i64 d2)) (some w1.heap.size) := gtrans (gtrans (Lib.grownBy_setCell _ _ _ _) (Lib.grownBy_setCell _ _ _ _)) (Lib.grownBy_setCell _ _ _ _)
   have HT8 := hid (HT7.out.other MK7.out hkb1 hW01 hg8)
   have MK8 := hid (heap_setCell_same _ _ 2 _ _ (.int .i64 d2) (heap_setCell_same _ _ 1 _ _ (.int .i64 e2) (heap_setCell_same w7 w1.heap.size 0 _ _ (.int .i64 n2) MK7.out)))
   obtain ⟨w8, hw8⟩ : ∃ w8, ((w7.setCell ⟨w1.heap.size, 0, none⟩ (.int .i64 n2)).setCell ⟨w1.heap.size, 1, none⟩ (.int .i64 e2)).setCell ⟨w1.heap.size, 2, none⟩ (.int .i64 d2) = w8 := ⟨_, rfl⟩
   rw [hw8] at HT8 MK8
   have MO := hid ((HT8.out.c.gr.block _ (lt_of_heap M3.out) (fun e => by have := Option.some.inj e; omega)).trans M3.out)
   obtain ⟨z0, z1, z2⟩ := (box3e (show w8.heap[w1.heap.size]? = some (.cells #[.int .i64 n2, .int .i64 e2, .int .i64 d2] 26 (0, 0)) from MK8.out)).1
   obtain ⟨⟨y0, y1, y2⟩, f0, f1, f2⟩ := box3e MO.out
   clear hC7 hG7 hg8 HT6 MK6 HT7 MK7 hkb2
   go_wp2_with fail
   clear k0 k1 k2 kf0 kf1 kf2
   go_region
   go_wp2_with fail
   refine bodyPost_ret (v := .tuple #[.slice (some ⟨g, 0, none⟩) L cv, .agg #[.int .i64 n2, .int .i64 e2, .int .i64 d2]]) (by simp [results, Tryz.results20, go_sem, y0, y1, y2]) rfl ⟨g, L, cv, es3, n2, e2, d2, rfl, HK2.out, h1, h50, ?_⟩
   refine HT8.out.out S1.out (Nat.le_refl _) (lt_of_heap M3.out) (by omega) ?_
   exact gtrans (gtrans (gtrans (Lib.grownBy_setCell _ _ _ _) (Lib.grownBy_setCell _ _ _ _)) (Lib.grownBy_setCell _ _ _ _)) (grown_of_belowJ (Below.refl _ _).drew _)

end Go.Proofs.YtoioiddjbanahaaGreatDoor

namespace Go.Proofs.YtoioiddjbanahaaGreatDoor

open Go.RowKit

set_option maxRecDepth 8000 in
set_option maxHeartbeats 8000000 in
theorem cDrawAtJ (a' : Option Addr) (n c' : Nat) (hn : n <= 50) (w0 : World) (a : Option Addr) (len cap b : Nat) (w : World) (hlen : len <= 4096) (hcr : CodeRow w0 a len) (hC : Cur w0 a len cap b w) :
  Calls Tryz.prog 21 #[.pointer (some ⟨b, 0, none⟩), .slice a' n c'] w fun e w' => ∃ x : Int, e = .returned (.int .i64 x) /\ -1 <= x /\ x <= 50 /\ Cur w0 a len cap b w' /\ w.grownBy w' (some b) := by
 have HR := hid hcr
 have HC := hid hC
 clear hcr hC
 by_cases h0 : n = 0
 ·subst h0
  go_enter Tryz.func21, Tryz.ntmps21
  go_wp2_with fail
  refine (cFromA (-1) 14 12 (by omega) (by omega) (by omega) (by omega) (by omega) w0 a len cap b _ hlen HR.out HC.out).mono ?_
  rintro e w1 ⟨x, rfl, hx1, hx2, hC1, hG1⟩
  have HC1 := hid hC1
  have HG1 := hid hG1
  clear hC1 hG1
  go_wp2_with fail
  go_ret
  exact ⟨_, rfl, hx1, by omega, HC1.out, HG1.out⟩
 ·have hd : decide ((0 : Int) < (n : Int)) = true := decide_eq_true (by omega)
  have hp : (0 : Int) < (n : Int) := by omega
  have CB := hid (fun wx (h : Cur w0 a len cap b wx) => cBelow n w0 a len cap b wx hlen HR.out h (by omega) (by omega))
  go_enter Tryz.func21, Tryz.ntmps21
  go_wp2_with fail
  refine (cOnce 10 w0 a len cap b _ hlen HR.out HC.out (by omega) (by omega)).mono ?_
  rintro e w1 ⟨B1, rfl, hC1, hG1⟩
  have HC1 := hid hC1
  have HG1 := hid hG1
  clear hC1 hG1
  cases B1
  ·go_wp2_with fail
   refine (CB.out _ HC1.out).mono ?_
   rintro e w2 ⟨x, rfl, hx, hC2, hG2⟩
   have HX := hid hx
   have HC2 := hid hC2
   have HG2 := hid (gtrans HG1.out hG2)
   clear hC2 hG2 hx
   go_wp2_with fail
   go_ret
   exact ⟨_, rfl, by omega, by have := HX.out; omega, HC2.out, HG2.out⟩
  ·go_wp2_with fail
   refine (cFromA (-1) 14 12 (by omega) (by omega) (by omega) (by omega) (by omega) w0 a len cap b _ hlen HR.out HC1.out).mono ?_
   rintro e w2 ⟨x, rfl, hx1, hx2, hC2, hG2⟩
   have HC2 := hid hC2
   have HG2 := hid (gtrans HG1.out hG2)
   clear hC2 hG2
   go_wp2_with fail
   go_ret
   exact ⟨_, rfl, hx1, by omega, HC2.out, HG2.out⟩

def DrawnB (w : World) (r : Ending) (w' : World) : Prop :=
 ∃ (a' : Option Addr) (c' : Nat) (ts : List Tk) (x n e d : Int), r = .returned (.tuple #[.slice a' ts.length c', .int .i64 x, .agg #[.int .i64 n, .int .i64 e, .int .i64 d]]) /\ TkRow w' a' ts /\ (1 <= ts.length /\ ts.length <= 50) /\ TksSz 1048576 ts /\ (ts.length <= c' /\ c' <= maxLen) /\ (-1 <= x /\ x <= 50) /\ (kb n /\ kb e /\ kb d) /\ Below w.heap.size w w'

theorem sealN_beq (s : ByteArray) : (s.toList == [115, 58, 83, 101, 97, 108]) = decide (s = ⟨#[115, 58, 83, 101, 97, 108]⟩) := by
 rw [<- str_beq]
 have e : (⟨#[115, 58, 83, 101, 97, 108]⟩ : ByteArray).toList = [115, 58, 83, 101, 97, 108] := by rw [ByteArray.toList_eq]
 rw [e]

set_option maxRecDepth 8000 in
set_option maxHeartbeats 8000000 in
theorem cDrawSealedBy (a : Option Addr) (len cap : Nat) (w : World) (hlen : len <= 4096) (hcr : CodeRow w a len) :
  Calls Tryz.prog 6 #[.slice a len cap] w (DrawnB w) := by
 obtain ⟨W0, hW0⟩ : ∃ W0, w.alloc (.cells #[.int .i64 0, .int .i64 0, .int .i64 0] 26) = W0 := ⟨_, rfl⟩
 have HB0 := hid (show Below w.heap.size w W0 by rw [<- hW0]; exact (Below.refl w.heap.size w).alloc (Nat.le_refl _) _)
 have M3 := hid (show W0.heap[w.heap.size]? = some (.cells #[.int .i64 0, .int .i64 0, .int .i64 0] 26 (0, 0)) by rw [<- hW0]; exact box_w3 w _ _ _ _)
 have HR := hid (code_below hcr HB0.out)
 have CNW := hid (cNew a len cap W0 hlen HR.out)
 unfold DrawnB
 clear hcr
 go_enter Tryz.func6, Tryz.ntmps6
 go_wp2_with fail
 refine CNW.out.mono ?_
 rintro r w1 ⟨rfl, hC1⟩
 obtain ⟨b, hb⟩ : ∃ b, W0.heap.size = b := ⟨_, rfl⟩
 rw [hb] at hC1 ⊢
 have HC1 := hid hC1
 clear hC1 CNW hW0
 go_wp2_with fail
 refine (cDraw13Any W0 a len cap b _ hlen HR.out HC1.out).mono ?_
 rintro r w2 ⟨g, L, cv, es, n, e, d, rfl, hkb, h1, h50, hT⟩
 have HKB := hid hkb
 have HT2 := hid (hT.alloc (.cells #[.int .i64 n, .int .i64 e, .int .i64 d] 26))
 obtain ⟨w3, hw3⟩ : ∃ w3, w2.alloc (.cells #[.int .i64 n, .int .i64 e, .int .i64 d] 26) = w3 := ⟨_, rfl⟩
 have MK := hid (show w3.heap[w2.heap.size]? = some (.cells #[.int .i64 n, .int .i64 e, .int .i64 d] 26 (0, 0)) by rw [<- hw3]; exact box_w3 w2 _ _ _ _)
 rw [hw3] at HT2
 have hkb1 : ¬ w2.heap.size = b := by have := hT.c.gr.size; have := hT.c.lt; omega
 clear hT hkb
 go_wp2_with fail
 clear hw3
 refine (cDrawAtJ (some ⟨g, 0, none⟩) L cv h50 W0 a len cap b _ hlen HR.out HT2.out.c.cur).mono ?_
 rintro r w4 ⟨x0, rfl, hx0, hx1, hC4, hG4⟩
 have HT4 := hid (HT2.out.draw hC4 hG4)
 have MK4 := hid ((hG4.block _ (lt_of_heap MK.out) (fun e => hkb1 (Option.some.inj e))).trans MK.out)
 clear hC4 hG4 HT2 MK
 go_wp2_with fail
 go_loopw [8, 9] (fun v8 v9 wr => ∃ (x : Int) (i : Nat), v8 = .int .i64 x /\ v9 = .int .i64 (i : Int) /\ (-1 <= x /\ x <= 50) /\ i <= L /\ Hid (TSj 200 W0 a len cap b w1 wr g L cv es) /\ Hid (wr.heap[w2.heap.size]? = some (.cells #[.int .i64 n, .int .i64 e, .int .i64 d] 26 (0, 0)))) (fun _ v9 _ => L - (intOf v9).toNat)
 case atStart => exact ⟨x0, 0, rfl, rfl, ⟨hx0, hx1⟩, Nat.zero_le _, HT4.out, MK4.out⟩
 case round =>
  clear HT4 MK4 hx0 hx1
  obtain ⟨x, i, rfl, rfl, hx, hi, HT, MK⟩ := hrel
  by_cases hlt : i < L
  ·have hiL : (i : Int) < (L : Int) := by omega
   have hie : i < es.length := by rw [HT.out.hL]; exact hlt
   have s1 := (HT.out.slot hie).1.2.1
   obtain ⟨nm, hnm⟩ : ∃ nm, (es[i]'hie).t.name = nm := ⟨_, rfl⟩
   rw [hnm] at s1
   have E1 := sealN_beq nm
   obtain ⟨Q, hQ⟩ : ∃ Q, decide (nm = ⟨#[115, 58, 83, 101, 97, 108]⟩) = Q := ⟨_, rfl⟩
   rw [hQ] at E1
   clear hnm hQ
   cases Q with
   | false =>
    go_wp2_with fail
    go_roundw
    case rel => exact ⟨x, i + 1, rfl, by go_num, hx, by omega, HT.out, MK.out⟩
    case measure => simp [intOf]; omega
   | true =>
    go_wp2_with fail
    refine (cOnce 4 W0 a len cap b _ hlen HR.out HT.out.c.cur (by decide) (by decide)).mono ?_
    rintro r w5 ⟨O1, rfl, hC5, hG5⟩
    have HT5 := hid (HT.out.draw hC5 hG5)
    have MK5 := hid ((hG5.block _ (lt_of_heap MK.out) (fun e => hkb1 (Option.some.inj e))).trans MK.out)
    clear hC5 hG5 HT MK s1
    cases O1 with
    | true =>
     go_wp2_with fail
     go_roundw
     case rel => exact ⟨x, i + 1, rfl, by go_num, hx, by omega, HT5.out, MK5.out⟩
     case measure => simp [intOf]; omega
    | false =>
     go_wp2_with fail
     go_roundw
     case rel => exact ⟨(i : Int), i + 1, rfl, by go_num, ⟨by omega, by omega⟩, by omega, HT5.out, MK5.out⟩
     case measure => simp [intOf]; omega
  ·have hiL : i = L := by omega
   subst hiL
   have hBW := HT.out.c.cur.2.1
   have MO := hid ((hBW.block _ (lt_of_heap M3.out)).trans M3.out)
   obtain ⟨z0, z1, z2⟩ := (box3e MK.out).1
   obtain ⟨⟨y0, y1, y2⟩, f0, f1, f2⟩ := box3e MO.out
   have HL := hid HT.out.hL
   go_wp2_with fail
   go_region
   go_wp2_with fail
   refine bodyPost_ret (v := .tuple #[.slice (some ⟨g, 0, none⟩) i cv, .int .i64 x, .agg #[.int .i64 n, .int .i64 e, .int .i64 d]]) (by simp [results, Tryz.results6, go_sem, y0, y1, y2]) rfl ?_
   have hlm : (es.map (·.t)).length = i := by rw [List.length_map]; exact HL.out
   have hgr : wr.grownBy ((((wr.setCell ⟨w.heap.size, 0, none⟩ (.int .i64 n)).setCell ⟨w.heap.size, 1, none⟩ (.int .i64 e)).setCell ⟨w.heap.size, 2, none⟩ (.int .i64 d)).drew) (some w.heap.size) := gtrans (gtrans (gtrans (Lib.grownBy_setCell _ _ _ _) (Lib.grownBy_setCell _ _ _ _)) (Lib.grownBy_setCell _ _ _ _)) (grown_of_belowJ (Below.refl _ _).drew _)
   refine ⟨some ⟨g, 0, none⟩, cv, es.map (·.t), x, n, e, d, by rw [hlm], ?_, by rw [hlm]; exact ⟨h1, h50⟩, HT.out.tks (by decide), by rw [hlm]; exact HT.out.room, hx, HKB.out, ?_⟩
   ·have hlow : w.heap.size < w1.heap.size := by have := HT.out.c.le; have := lt_of_heap M3.out; omega
    have hr := HT.out.row.kept hgr (.inr (fun x => by have := (HT.out.row.lt _ x).1; omega))
    exact own_tkRow hr HT.out.hL (fun e he => (own_atR ((HT.out.oe.own e he).kept hgr (.inr (fun x => by have := ((HT.out.oe.own e he).lt _ x).1; omega))) rfl).atRow)
   ·refine Below.drew ?_
    iterate 3 refine Below.setCell ?_ (show w.heap.size <= w.heap.size from Nat.le_refl _) _
    exact bb HB0.out hBW

end Go.Proofs.YtoioiddjbanahaaGreatDoor

namespace Go.Proofs.YtoioiddjbanahaaGreatDoor

open Go.RowKit

noncomputable def sealerV (n e d : Int) : Value := .iface (if lkB n e d = true then 113 else 111) (.agg #[.int .i64 n, .int .i64 e, .int .i64 d])

set_option maxHeartbeats 2000000 in
theorem cSealerOf (n e d : Int) (w : World) :
  Calls Tryz.prog 27 #[.agg #[.int .i64 n, .int .i64 e, .int .i64 d]] w fun x w' => x = .returned (sealerV n e d) /\ Below w.heap.size w w' := by
 have HB0 := hid ((Below.refl w.heap.size w).alloc (Nat.le_refl _) (.cells #[.int .i64 n, .int .i64 e, .int .i64 d] 26))
 have M0 := hid (box_w3 w (.int .i64 n) (.int .i64 e) (.int .i64 d) 26)
 have CW := hid (fun wx => cWholeOf n e d wx)
 have CL := hid (fun wx => cLocks n e d wx)
 unfold sealerV
 generalize lkB n e d = K at *
 go_enter Tryz.func27, Tryz.ntmps27
 go_wp2_with fail
 refine (CW.out _).mono ?_
 rintro x w1 ⟨rfl, hb1⟩
 have HB1 := hid (bb HB0.out hb1)
 have M1 := hid (blk_below M0.out hb1)
 clear hb1 CW M0 HB0
 go_wp2_with fail
 refine (CL.out _).mono ?_
 rintro x w2 ⟨rfl, hb2⟩
 have HB2 := hid (bb HB1.out hb2)
 obtain ⟨z0, z1, z2⟩ := (box3e (blk_below M1.out hb2)).1
 clear hb2 CL M1 HB1
 cases K with
 | true =>
  go_wp2_with fail
  go_ret
  exact ⟨rfl, HB2.out⟩
 | false =>
  go_wp2_with fail
  go_ret
  exact ⟨rfl, HB2.out⟩

noncomputable def ownsB (n e d : Int) (v s : ByteArray) : Bool := open Classical in tenB v && decide (openI n e d (numOf v.data.toList).1 = ((hsL s.data.toList : Nat) : Int))

set_option maxHeartbeats 2000000 in
theorem cOwns (n e d : Int) (v s : ByteArray) (w : World) (he : e <= 9223372036854775807) (hv : v.size <= 1048576) (hs : s.size <= 1073741824) :
  Calls Tryz.prog 269 #[.agg #[.int .i64 n, .int .i64 e, .int .i64 d], .string v, .string s] w fun x w' => x = .returned (.bool (ownsB n e d v s)) /\ Below w.heap.size w w' := by
 have HB0 := hid ((Below.refl w.heap.size w).alloc (Nat.le_refl _) (.cells #[.int .i64 n, .int .i64 e, .int .i64 d] 111))
 have M0 := hid (box_w3 w (.int .i64 n) (.int .i64 e) (.int .i64 d) 111)
 have CN := hid (fun wx => cNumI v wx hv)
 have CO := hid (fun wx => cOpenedI n e d (numOf v.data.toList).1 wx he)
 have CH := hid (fun wx => cHashIW s wx hs)
 have HV := hid (show ownsB n e d v s = ((numOf v.data.toList).2 && decide (openI n e d (numOf v.data.toList).1 = ((hsL s.data.toList : Nat) : Int))) by unfold ownsB tenB; congr)
 rw [HV.out]
 clear HV he hv hs
 generalize (numOf v.data.toList).1 = X at *
 generalize (numOf v.data.toList).2 = Y at *
 generalize openI n e d X = O at *
 obtain ⟨H, hH⟩ : ∃ H : Int, ((hsL s.data.toList : Nat) : Int) = H := ⟨_, rfl⟩
 rw [hH] at CH ⊢
 clear hH
 have hOH : (O == H) = decide (O = H) := by
  by_cases q : O = H
  ·subst q; simp
  ·simp [q]
 obtain ⟨Z, hZ⟩ : ∃ Z, decide (O = H) = Z := ⟨_, rfl⟩
 rw [hZ] at hOH ⊢
 clear hZ
 obtain ⟨z0, z1, z2⟩ := (box3e M0.out).1
 cases Y with
 | false =>
  go_enter Tryz.func269, Tryz.ntmps269
  go_wp2_with fail
  refine (CN.out _).mono ?_
  rintro x w1 ⟨rfl, rfl⟩
  clear CN
  go_wp2_with fail
  go_ret
  exact ⟨rfl, HB0.out⟩
 | true =>
  go_enter Tryz.func269, Tryz.ntmps269
  go_wp2_with fail
  refine (CN.out _).mono ?_
  rintro x w1 ⟨rfl, rfl⟩
  clear CN
  go_wp2_with fail
  refine (CO.out _).mono ?_
  rintro x w2 ⟨rfl, hb2⟩
  have HB2 := hid (bb HB0.out hb2)
  clear hb2 CO z0 z1 z2 M0 HB0
  go_wp2_with fail
  refine (CH.out _).mono ?_
  rintro x w3 ⟨rfl, hb3⟩
  have HB3 := hid (bb HB2.out hb3)
  clear hb3 CH HB2
  go_wp2_with fail
  go_ret
  exact ⟨by simp, HB3.out⟩

set_option maxHeartbeats 2000000 in
theorem cWordsSpoken (r s g : ByteArray) (w : World) (hr : r.size <= 1048576) (hs : s.size <= 1048576) :
  Calls Tryz.prog 28 #[.agg #[.string r, .string s, .string g]] w fun x w' => x = .returned (.string (spokenF r s)) /\ Below w.heap.size w w' := by
 have HB0 := hid ((Below.refl w.heap.size w).alloc (Nat.le_refl _) (.cells #[.string r, .string s, .string g] 53))
 obtain ⟨z0, z1, z2⟩ := (box3e (box_w3 w (.string r) (.string s) (.string g) 53)).1
 have C := hid (fun wx => cSpokenI r s wx hr hs)
 clear hr hs
 generalize spokenF r s = V at *
 go_enter Tryz.func28, Tryz.ntmps28
 go_wp2_with fail
 refine (C.out _).mono ?_
 rintro x w1 ⟨rfl, hb1⟩
 have HB1 := hid (bb HB0.out hb1)
 clear hb1 C
 go_wp2_with fail
 go_ret
 exact ⟨rfl, HB1.out⟩

end Go.Proofs.YtoioiddjbanahaaGreatDoor
