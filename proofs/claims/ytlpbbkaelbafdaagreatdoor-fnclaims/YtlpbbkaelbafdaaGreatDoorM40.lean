/-  -/
import Derived.Test.YtlpbbkaelbafdaaGreatDoorM39
import Derived.Test.YtlpbbkaelbafdaaGreatDoorM36
import Derived.Test.YtlpbbkaelbafdaaGreatDoorM35
import Derived.Test.YtlpbbkaelbafdaaGreatDoorM38
import Derived.Test.YtlpbbkaelbafdaaGreatDoorM14
import Derived.Deep.CutRange
set_option linter.unusedVariables false
set_option linter.unusedSimpArgs false
namespace Go.Proofs.YtlpbbkaelbafdaaGreatDoor
open Go.RowKit

def mixP (σ0 : Nat -> Value) (v5 : Value) (x : Nat -> Value) : Nat -> Value := fun k => if k = 5 then v5 else if 48 <= k /\ k <= 57 then x (k - 48) else σ0 k

theorem reg8A {w0 : World} {a : Option Addr} {len cap b : Nat} {w : World} {Q : Exit -> Act -> World -> Prop} {A : Act} (hA : A = frP b (fun k => A.tmps.getD k undef)) (hlen : len <= 4096) (hcr : CodeRow w0 a len) (hw0 : w0.heap.size <= w.heap.size) (hC : Cur w0 a len cap b w)
  (hQ : ∀ (g : Nat) (s t : ByteArray) (x : Nat -> Value) (W : World), (¬ g = b) -> w.heap.size <= g -> W.heap[g]? = some (.cells #[.string s, .string t] 40 (0, 0)) -> s.size <= 30 -> t.size <= 30 -> Cur w0 a len cap b W -> w.grownBy W (some b) -> Q .normal (frP b (mixP (fun k => A.tmps.getD k undef) (.pointer (some ⟨g, 0, none⟩)) x)) W) :
  ∀ ops, Tryz.f26.body.bind (opsL14 8) = some ops -> (Code.region 8 ops true).wp Tryz.prog Q A w := by
 intro ops ho
 have h := reg8 (Q := Q) (fun k => A.tmps.getD k undef) hlen hcr hw0 hC (fun σ W hs hF => by
  obtain ⟨g, s, t, e5, h1, h2, h3, h4, h5, h6, h7⟩ := hF
  have e : σ = mixP (fun k => A.tmps.getD k undef) (.pointer (some ⟨g, 0, none⟩)) (fun k => σ (48 + k)) := by
   funext k
   unfold mixP
   split
   ·rename_i hk; rw [hk]; exact e5
   ·split
    ·rename_i hk; show σ k = σ (48 + (k - 48)); congr 1; omega
    ·exact hs k (by assumption) (by omega)
  rw [e]
  exact hQ g s t _ W h1 h2 h3 h4 h5 h6 h7) ops ho
 rw [<- hA] at h
 exact h

def ClD (w0 : World) (a : Option Addr) (len cap b : Nat) (w : World) (g m : Nat) (W : World) : Prop :=
 ∃ (c : Cm) (v : Value), AnC w0 a len cap b w W g c v /\ CmSz 100 c /\ c.facts.length <= m /\ (¬ c.iss.size = 0) /\ (¬ c.sub.size = 0) /\ ¬ c.whom.size = 0

theorem FinC.drewR {w0 : World} {a : Option Addr} {len cap b : Nat} {w W : World} {c : Cm} {v : Value} (h : FinC w0 a len cap b w W c v) (hz : CmSz 100 c) (hm : c.facts.length <= 3) (n1 : ¬ c.iss.size = 0) (n2 : ¬ c.sub.size = 0) (n3 : ¬ c.whom.size = 0) : DrewR w0 a len cap b w (.returned (clV c v)) W := by
 refine ⟨c, v, rfl, ⟨h.own.1, ?_⟩, hz, hm, h.cur, h.gr, n1, n2, n3⟩
 rcases h.own.2 with h' | ⟨g, cap, cur, k1, k2, k3, k4⟩
 ·exact .inl h'
 ·exact .inr ⟨g, cap, cur, k1, by omega, k3, k4⟩

set_option maxRecDepth 8000 in
set_option maxHeartbeats 8000000 in
theorem cDraw14 : L14 := by
 intro w0 a len cap b w hlen hcr hC
 have HR := hid hcr
 have HC := hid hC
 have M2 := hid (heap_alloc_new w (.cells #[.string ⟨#[]⟩, .string ⟨#[]⟩, .string ⟨#[]⟩, .int .i64 0, .int .i64 0, .string ⟨#[]⟩, .string ⟨#[]⟩, .slice none 0 0] 26))
 have hbl := hC.lt
 have hle := hC.size
 clear hcr hC
 go_enter Tryz.func26, Tryz.ntmps26
 go_wp2_with fail
 refine reg14 (fun _ => undef) hlen HR.out (by rw [World.size_alloc]) hle (HC.out.alloc _) (fun σ W hF => ?_) _ rfl
 obtain ⟨g, c, e3, hne, hbg, hcl, hz, hf, n1, n2, n3, hC1, hG1⟩ := hF
 have HA := hid (show AnC w0 a len cap b w W g c (.slice none 0 0) from ⟨hC1, gtrans (World.grownBy_alloc w _ _) hG1, ⟨hcl, by rw [hf]; exact World.ownsRow_nil _ _ _ _, fun e => by cases e⟩, (hG1.block w.heap.size (by rw [World.size_alloc]; omega) (fun e => by have := Option.some.inj e; omega)).trans M2.out, hbl, hbg, hle⟩)
 have HZ := hid (And.intro hz (And.intro hf (And.intro n1 (And.intro n2 n3))))
 clear hcl hz hf n1 n2 n3 hC1 hG1 M2 HC
 unfold frO
 rw [e3]
 clear e3
 simp only [Exit.then]
 obtain ⟨wf, hwf⟩ : ∃ f : Nat -> Int, ∀ x : Nat, IntKind.i64.wrap (c.frm + (x : Int)) = f x := ⟨_, fun _ => rfl⟩
 go_upto_region 2 with fail
 go_cut [34] from 30 to 35 (fun _ wv => Hid (ClD w0 a len cap b w g 0 wv))
 case first =>
  have CB := hid (show Calls Tryz.prog 28 #[.pointer (some ⟨b, 0, none⟩), .int .i64 500] W.drew fun r w' => ∃ x : Nat, r = .returned (.int .i64 x) /\ Hid (AnC w0 a len cap b w w' g c (.slice none 0 0)) /\ w'.cell? ⟨g, 3, none⟩ = some (.int .i64 c.frm) /\ w'.cell? ⟨g, 4, none⟩ = some (.int .i64 c.til) /\ w'.frozen? ⟨g, 4, none⟩ = false by
   refine (cBelowBig 500 w0 a len cap b _ hlen HR.out HA.out.drew1.cur (by decide) (by decide)).mono ?_
   rintro r w7 ⟨x, rfl, hx, hC7, hG7⟩
   have h7 := HA.out.drew1.draw hC7 hG7
   obtain ⟨⟨q0, q1, q2, q3, q4, q5, q6, q7⟩, qf0, qf1, qf2, qf3, qf4, qf5, qf6, qf7⟩ := box8 h7.box.hc
   exact ⟨x, rfl, h7, q3, q4, qf4⟩)
  have c3 : W.cell? ⟨g, 3, none⟩ = some (.int .i64 c.frm) := by rw [Lib.cell_of_heap HA.out.box.hc]; rfl
  go_region_law (first
   | (go_simp; go_at_call 28; refine CB.out.mono ?_; rintro r W2 ⟨x, rfl, HA2, d3, d4, f4⟩))
  all_goals
   have HA3 := hid (HA2.out.set (i := 4) (u := .int .i64 (wf x)) (c' := { c with til := wf x }) (heap_setCell_same W2 g 4 _ _ (.int .i64 (wf x)) HA2.out.box.hc) rfl)
   go_wp2_with fail
   go_meet
   exact ⟨{ c with til := wf x }, _, HA3.out, HZ.out.1, by show c.facts.length <= 0; rw [HZ.out.2.1]; exact Nat.le_refl _, HZ.out.2.2.1, HZ.out.2.2.2.1, HZ.out.2.2.2.2⟩
 case rest =>
  obtain ⟨c, v, hA, hz, hf, n1, n2, n3⟩ := hcut.out
  clear HA HZ hwf hcut
  have HA := hid hA
  clear hA
  go_wp2_with fail
  refine (cOnce 2 w0 a len cap b _ hlen HR.out HA.out.cur (by decide) (by decide)).mono ?_
  rintro e w3 ⟨k, rfl, hC3, hG3⟩
  replace HA := hid (HA.out.draw hC3 hG3)
  clear hC3 hG3
  go_upto_if 37 with fail
  go_cut [38] from 38 to 41 (fun _ wv => Hid (ClD w0 a len cap b w g 0 wv))
  case first =>
   cases k
   ·go_wp2_with fail
    go_meet
    exact ⟨c, v, HA.out, hz, hf, n1, n2, n3⟩
   ·go_wp2_with fail
    refine (cText ⟨#[49, 50]⟩ 2 w0 a len cap b _ (by decide) (by decide) (by decide) (by decide) hlen HR.out HA.out.cur).mono ?_
    rintro e w4 ⟨t, rfl, ht, hC4, hG4⟩
    have HA4 := hid (HA.out.draw hC4 hG4)
    have hcat : ¬ 9223372036854775807 < 1 + t.size := by omega
    have HF := hid (HA4.out.set (i := 6) (u := .string ((⟨#[114]⟩ : ByteArray) ++ t)) (c' := { c with ans := (⟨#[114]⟩ : ByteArray) ++ t }) (heap_setCell_same w4 g 6 _ _ (.string ((⟨#[114]⟩ : ByteArray) ++ t)) HA4.out.box.hc) rfl)
    obtain ⟨⟨q0, q1, q2, q3, q4, q5, q6, q7⟩, qf0, qf1, qf2, qf3, qf4, qf5, qf6, qf7⟩ := box8 HA4.out.box.hc
    clear hC4 hG4
    go_wp2_with fail
    go_meet
    exact ⟨{ c with ans := (⟨#[114]⟩ : ByteArray) ++ t }, v, HF.out, ⟨hz.1, hz.2.1, hz.2.2.1, hz.2.2.2.1, by show ((⟨#[114]⟩ : ByteArray) ++ t).size <= 100; rw [ByteArray.size_append]; show 1 + t.size <= 100; omega, hz.2.2.2.2.2⟩, hf, n1, n2, n3⟩
  case rest =>
   obtain ⟨c, v, hA, hz, hf, n1, n2, n3⟩ := hcut.out
   clear HA hcut
   have HA := hid hA
   clear hA
   go_wp2_with fail
   refine (cBelow 4 w0 a len cap b _ hlen HR.out HA.out.cur (by decide) (by decide)).mono ?_
   rintro e w5 ⟨n0, rfl, hn0, hC5, hG5⟩
   have HD0 := hid (show ClD w0 a len cap b w g (3 - n0) w5 from ⟨c, v, HA.out.draw hC5 hG5, hz, by omega, n1, n2, n3⟩)
   clear hC5 hG5 HA hz hf n1 n2 n3
   go_wp2_with fail
   go_loopw [4] (fun y wr => ∃ n : Nat, y = .int .i64 (n : Int) /\ n <= 3 /\ Hid (ClD w0 a len cap b w g (3 - n) wr)) (fun y _ => (intOf y).toNat)
   case atStart => exact ⟨n0, rfl, by omega, HD0.out⟩
   case round =>
    clear HD0
    obtain ⟨n, rfl, hn, HD⟩ := hrel
    obtain ⟨c, v, hA, hz, hf, n1, n2, n3⟩ := HD.out
    have HA := hid hA
    obtain ⟨av, cv, hv, hoa⟩ := qa_own hA.box.own
    subst hv
    have HOA := hid hoa
    clear hA hoa HD
    rcases Nat.eq_zero_or_pos n with h0 | h0
    ·subst h0
     obtain ⟨⟨q0, q1, q2, q3, q4, q5, q6, q7⟩, _⟩ := box8 HA.out.box.hc
     obtain ⟨⟨y0, y1, y2, y3, y4, y5, y6, y7⟩, yf0, yf1, yf2, yf3, yf4, yf5, yf6, yf7⟩ := box8 HA.out.res
     go_wp2_with fail
     have hset : ∀ (W : World) (i : Nat) (u : Value), FinC w0 a len cap b w W c (.slice av c.facts.length cv) -> FinC w0 a len cap b w (W.setCell ⟨w.heap.size, i, none⟩ u) c (.slice av c.facts.length cv) := fun W i u h => h.set hbl i u
     have hfin : FinC w0 a len cap b w wr c (.slice av c.facts.length cv) := ⟨HA.out.cur, HA.out.gr, HA.out.box.own, HA.out.le⟩
     refine bodyPost_ret (v := clV c (.slice av c.facts.length cv)) (by simp [results, Tryz.results26, go_sem, clV, y0, y1, y2, y3, y4, y5, y6, y7]) rfl ?_
     refine FinC.drewR ?_ hz (by omega) n1 n2 n3
     iterate 8 refine hset _ _ _ ?_
     exact hfin
    ·obtain ⟨m, rfl⟩ : ∃ m, n = m + 1 := ⟨n - 1, by omega⟩
     have hd : decide ((0 : Int) < ((m + 1 : Nat) : Int)) = true := decide_eq_true (by omega)
     have hd2 : (0 : Int) < (m : Int) + 1 := by omega
     go_upto_region 8 with fail
     refine reg8A (by rfl) hlen HR.out (Nat.le_trans hle HA.out.gr.size) HA.out.cur (fun g2 s t x W2 r1 r2 r3 r4 r5 hC2 hG2 => ?_) _ rfl
     have HA2 := hid (HA.out.draw hC2 hG2)
     obtain ⟨av', cv', hv', hoa'⟩ := qa_own HA2.out.box.own
     obtain ⟨rfl, _, rfl⟩ := Value.slice.inj hv'
     have CV := hid (cValueInS av cv c.facts s W2 hoa'.rd (fun y hy => ⟨Nat.le_trans (hz.2.2.2.2.2.2 y hy).1 (by decide), Nat.le_trans (hz.2.2.2.2.2.2 y hy).2 (by decide)⟩) (by omega) (by omega))
     obtain ⟨⟨p0, p1⟩, _⟩ := q_box2 r3
     obtain ⟨⟨q0, q1, q2, q3, q4, q5, q6, q7⟩, qf0, qf1, qf2, qf3, qf4, qf5, qf6, qf7⟩ := box8 HA2.out.box.hc
     obtain ⟨i1, hi1, hy0, hy1, hy2⟩ := info_parts infoQA
     have HJ := hid (And.intro hi1 (And.intro hy0 (And.intro hy1 hy2)))
     generalize (valF c.facts s).isSome = IS at *
     generalize (valF c.facts s).getD ByteArray.empty = U at *
     clear hi1 hy0 hy1 hy2 hC2 hG2 hoa' HA HOA hv'
     have hmw : IntKind.i64.wrap (((m + 1 : Nat) : Int) - 1) = (m : Int) := by rw [show (((m + 1 : Nat) : Int) - 1) = (m : Int) by omega]; exact IntWalk.i64_in _ (by omega)
     simp only [Exit.then, frP, mixP]
     have H3 := hid (show c.facts.length + 1 <= maxLen by unfold maxLen; omega)
     have H4 := hid (show (c.facts.length + 1) * 32 <= 140737488355328 by omega)
     go_wp2_with fail
     refine CV.out.mono ?_
     rintro e W3 ⟨rfl, hw3⟩
     subst hw3
     clear CV
     cases IS
     ·go_wp2_with (at_builtin; refine wpList_append_own_at _ rfl _ _ 24 rfl (w.heap.size + 1) 40 i1 _ 2 32 Tryz.underlying24 HJ.out.1 HJ.out.2.1 HJ.out.2.2.1 HJ.out.2.2.2 rfl (by decide) (.slice av c.facts.length cv) c.facts.length (qaC c.facts) rfl (HA2.out.box.own.alloc _) ⟨_, 0, none⟩ 1 1 [.string s, .string t] rfl rfl (q_two_cells _ _ _ _) (q_two_one _ _) H3.out H4.out (Nat.succ_le_of_lt (lt_of_heap (HA2.out.alloc (.cells #[.string s, .string t] 40)).res)) ?_)
      intro v9 w9 hown9 hgrow9 _ hat9
      obtain ⟨a9, c9, hv9, hA9, z9, zf9⟩ := AnC.app (HA2.out.alloc (.cells #[.string s, .string t] 40)) hown9 hgrow9 (by rw [World.size_alloc]; exact hat9)
      have HA9 := hid hA9
      clear hown9 hgrow9 hat9 hA9
      subst hv9
      go_wp2_with fail
      go_roundw
      case rel =>
       refine ⟨m, by go_num, by omega, _, _, HA9.out, ⟨hz.1, hz.2.1, hz.2.2.1, hz.2.2.2.1, hz.2.2.2.2.1, ?_, ?_⟩, ?_, n1, n2, n3⟩
       ·show (c.facts ++ [_]).length <= 100
        rw [List.length_append]
        have : [(⟨s, t⟩ : At)].length = 1 := rfl
        omega
       ·intro y hy
        rcases List.mem_append.1 hy with h | h
        ·exact hz.2.2.2.2.2.2 y h
        ·rw [List.mem_singleton.1 h]
         exact ⟨Nat.le_trans r4 (by decide), Nat.le_trans r5 (by decide)⟩
       ·show (c.facts ++ [_]).length <= 3 - m
        rw [List.length_append]
        have : [(⟨s, t⟩ : At)].length = 1 := rfl
        omega
      case measure => (simp [intOf]; try omega)
     ·go_wp2_with fail
      go_roundw
      case rel => exact ⟨m, by go_num, by omega, c, _, HA2.out, hz, by omega, n1, n2, n3⟩
      case measure => (simp [intOf]; try omega)

end Go.Proofs.YtlpbbkaelbafdaaGreatDoor

namespace Go.Proofs.YtlpbbkaelbafdaaGreatDoor
open Go.RowKit

theorem road_claims (a : Option Addr) (len cap : Nat) (w : World) (hM : Laid w) (hcr : CodeRow w a len) :
  Calls Tryz.prog 3 #[.slice a len cap] w fun e w' => e = .returned (.bool true) /\ Below w.heap.size w w' :=
 law_claims a len cap w hM hcr (fun hl wx h => cDrawClaimTree cDraw14 a len cap wx hl (code_below hcr h)) (fun hl wx h => cDrawDecoded cDraw14 a len cap wx hl (code_below hcr h))

end Go.Proofs.YtlpbbkaelbafdaaGreatDoor

namespace Go.Proofs.YtlpbbkaelbafdaaGreatDoor
open Go.RowKit

theorem pow_data : (Lib.tabData .u64 Lib.pow10Tab : DataW Unit) = Rows.laid_internal_strconv_uint64pow10 := by kernel_rfl

theorem laid_of {l : List (String × DataW Unit)} {w : World} (h : laidMet Tryz.prog l w) (h0 : (longName, Lib.tabData .i64 longZ) ∈ l) (h1 : (shortName, Lib.tabData .i64 shortZ) ∈ l) (h2 : (powName, Rows.laid_internal_strconv_uint64pow10) ∈ l) : Laid w := by
 refine ⟨mon_of h h0 h1, ?_⟩
 rw [<- pow_data] at h2
 exact tab_of h h2 (g := 2) (t := 189) (by kernel_rfl) (by kernel_rfl) Tryz.underlying189 Tryz.underlying177 (by kernel_rfl) (by kernel_rfl)

end Go.Proofs.YtlpbbkaelbafdaaGreatDoor

namespace Go.Proofs.YtlpbbkaelbafdaaGreatDoor
open Go.RowKit

theorem laid_claims {w : World} (h : laidMetH Tryz.prog Rows.fnClaimsRow.laid w) : Laid w := by
 rw [MakeChecks.laidMetH_plain _ _ _ (by kernel_rfl)] at h
 exact laid_of h (.tail _ (.tail _ (.tail _ (.tail _ (.head _))))) (.tail _ (.tail _ (.tail _ (.head _)))) (.tail _ (.tail _ (.head _)))

end Go.Proofs.YtlpbbkaelbafdaaGreatDoor
