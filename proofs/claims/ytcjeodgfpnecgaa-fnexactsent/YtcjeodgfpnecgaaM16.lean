/- Contract of what the specification gives for the tokens of a node, of TokensOf. Contracts of the methods by which a sign is written: reference, itself, inText, inQuotes. -/
import Derived.Test.YtcjeodgfpnecgaaM14
import Derived.Test.YtcjeodgfpnecgaaM15
import Derived.Test.YtcjeodgfpnecgaaRows
import Derived.Test.YtcjeodgfpnecgaaM9
import Derived.Test.YtcjeodgfpnecgaaM1
import Derived.Deep.RegionHeld3
import Derived.WalkKit
namespace Go.Proofs.Ytcjeodgfpnecgaa
open Go.RowKit
set_option linter.unusedVariables false
set_option linter.unusedSimpArgs false

theorem TkRow.nodeAt {w : World} {a : Option Addr} {ts : List Tk} (h : TkRow w a ts) (j : Nat) (hj : j < ts.length) : ∃ b o aa cap, a = some ⟨b, o, none⟩ ∧ b < w.heap.size ∧ w.cell? ⟨b, o + j * 4, none⟩ = some (.int .i64 (nodeAt ts j).kind) ∧ w.cell? ⟨b, o + j * 4 + 1, none⟩ = some (.string (nodeAt ts j).name)
    ∧ w.cell? ⟨b, o + j * 4 + 2, none⟩ = some (.slice aa (nodeAt ts j).attrs.length cap) ∧ w.cell? ⟨b, o + j * 4 + 3, none⟩ = some (.string (nodeAt ts j).text) ∧ AtRow w aa (nodeAt ts j).attrs := by
  rw [nodeAt_at hj]
  exact h j hj

set_option maxRecDepth 8000 in
set_option maxHeartbeats 8000000 in
theorem cTokS (a : Option Addr) (cap : Nat) (ts : List Tk) (hn : ts.length ≤ 1048576) (hz : TksSz 1048576 ts) : ∀ (f k : Nat) (w : World), TkRow w a ts → k < ts.length → ts.length - k ≤ f →
    Calls Try.prog 34 #[.slice a ts.length cap, .int .i64 (k : Int)] w fun e w' => ∃ a' c' es, e = .returned (.slice a' es.length c') ∧ Tn.Row w' w.heap.size (.slice a' es.length c') es ∧ es.map (·.t) = tokN ts f k ∧ ¬ es = [] ∧ Below w.heap.size w w' := by
  intro f
  induction f with
  | zero => intro k w _ h1 h2; omega
  | succ f ih =>
    intro k w hR hk hf
    have IH := hid ih
    clear ih
    obtain ⟨b, o, aa, ca, rfl, hb, c0, c1, c2, c3, cr⟩ := hR.nodeAt k hk
    have HR := hid hR
    have HZ := hid hz
    have HTL := hid (fun e h1 h2 => tokKids_len (ts := ts) f (e := e) hk h1 h2)
    have HTL2 := hid (fun i (hi : i < ts.length) => tokN_len (ts := ts) f i hi)
    have HEN := hid (endN_le hk)
    have CE := hid (fun wx h => cEndS (some ⟨b, o, none⟩) cap ts k wx h hk hn)
    have HSZ : Hid (TkSz 1048576 (nodeAt ts k)) := by rw [nodeAt_at hk]; exact hz _ (List.getElem_mem hk)
    obtain ⟨V, hV⟩ : ∃ V, tokN ts (f + 1) k = V := ⟨_, rfl⟩
    have HV := hid hV
    rw [hV]
    have HT0 : Hid ((nodeAt ts k).name.size = 0 → V = [txT (nodeAt ts k)]) := fun h => by rw [← HV.out, tokN]; exact if_pos h
    have HT1 : Hid (¬ (nodeAt ts k).name.size = 0 → V = opT (nodeAt ts k) :: ((kidsTo ts k (endN ts k)).flatMap (tokN ts f) ++ [clT (nodeAt ts k)])) := fun h => by rw [← HV.out, tokN]; exact if_neg h
    obtain ⟨T, hT⟩ : ∃ T, nodeAt ts k = T := ⟨_, rfl⟩
    rw [hT] at c0 c1 c2 c3 cr HSZ HT0 HT1
    obtain ⟨n, hnn⟩ : ∃ n, ts.length = n := ⟨_, rfl⟩
    have HN := hid hnn
    have hkk := hk
    rw [hnn] at hn hk hf CE ⊢
    obtain ⟨E, hE⟩ : ∃ E, endN ts k = E := ⟨_, rfl⟩
    rw [hE] at CE HT1 HEN HTL
    have HEE := hid hE
    have HKK := hid hkk
    have HF := hid hf
    have HTT := hid hT
    clear hV hnn hR hz hT hE hkk hf
    obtain ⟨tk, tn, tl, tx⟩ := T
    simp only at c0 c1 c2 c3 cr HSZ HT0 HT1 HTT
    have hkn : (k : Int) < (n : Int) := by omega
    have E1 := empty_is tn
    have z1 := HSZ.out.1
    simp only at z1
    by_cases e1 : tn.size = 0
    · have HW := hid (HT0.out e1)
      rw [decide_eq_true e1] at E1
      have M0 := hid (heap_alloc_new w (.cells #[.int .i64 3, .string ⟨#[]⟩, .slice none 0 0, .string tx] 50))
      have HB0 := hid ((Below.refl w.heap.size w).alloc (Nat.le_refl _) (.cells #[.int .i64 3, .string ⟨#[]⟩, .slice none 0 0, .string tx] 50))
      have HRow := hid (Tn.Row.one (e := ⟨txT ⟨tk, tn, tl, tx⟩, none, 0⟩) (Nat.le_refl w.heap.size) M0.out (fun h => absurd h (Nat.not_lt_zero _)) (fun g o h => absurd h (Nat.not_lt_zero _)))
      clear cr
      go_enter Try.func34, Try.ntmps34
      go_wp2_with fail
      go_ret
      exact ⟨_, _, [⟨txT ⟨tk, tn, tl, tx⟩, none, 0⟩], rfl, HRow.out, by rw [HW.out]; rfl, by simp, HB0.out⟩
    · have HW := hid (HT1.out e1)
      rw [decide_eq_false e1] at E1
      clear HT0 HT1 e1
      have CC := hid (fun wx (h : AtRow wx aa tl) => cCopyS aa ca tl wx h HSZ.out.2.1)
      have CR := hid cr
      obtain ⟨m, hm⟩ : ∃ m, tl.length = m := ⟨_, rfl⟩
      have HM := hid hm
      rw [hm] at c2 CC
      clear cr hm
      go_enter Try.func34, Try.ntmps34
      go_wp2_with fail
      have HBc := hid ((Below.refl w.heap.size w).drew)
      have hk1 := hid (And.intro c1 (And.intro c2 hb))
      go_region_held3 (fun w' => w'.cell? ⟨b, o + k * 4 + 1, none⟩ = some (.string tn) ∧ w'.cell? ⟨b, o + k * 4 + 2, none⟩ = some (.slice aa m ca)) (first | exact ⟨(HBc.out.cell (p := ⟨b, o + k * 4 + 1, none⟩) hk1.out.2.2).trans hk1.out.1, (HBc.out.cell (p := ⟨b, o + k * 4 + 2, none⟩) hk1.out.2.2).trans hk1.out.2.1⟩ | go_keep)
        (first
          | (go_at_call 55; refine (CC.out _ (CR.out.below HBc.out)).mono ?_; rintro e w1 ⟨a1, cc1, rfl, ha1, hb1⟩; have HA1 := hid (show OwnAts w1 w.heap.size a1 tl from ha1); replace HBc := hid (bb HBc.out hb1); clear hb1 ha1))
      have M1 := hid (heap_alloc_new w1 (.cells #[.int .i64 1, .string tn, .slice a1 m cc1, .string ⟨#[]⟩] 50))
      have HL1 := hid ((Below.refl w1.heap.size w1).alloc (Nat.le_refl _) (.cells #[.int .i64 1, .string tn, .slice a1 m cc1, .string ⟨#[]⟩] 50))
      have HB1 := hid (bb HBc.out HL1.out)
      have M2 := M1.out
      rw [← HM.out] at M2
      have HRow := hid (Tn.Row.one (B := w.heap.size) (e := ⟨opT ⟨tk, tn, tl, tx⟩, a1, cc1⟩) HBc.out.size M2 (HA1.out.below (by rw [HM.out]; exact HL1.out)) (fun g o h e => by
        obtain ⟨g', o', cu, e', _, hh, _⟩ := HA1.out h
        simp only at e
        rw [e] at e'
        cases e'
        have := lt_of_heap hh
        omega))
      rw [HM.out] at HRow
      clear M2 M1 HL1 HA1 HBc hk1 c0 c1 c2 c3 hb E1
      go_wp2_with fail
      go_loopw [5, 6] (fun v x wr => ∃ (i : Nat) (a' : Option Addr) (c' : Nat) (es : List Tn.E), x = .int .i64 (i : Int) ∧ k < i ∧ i ≤ E ∧ Hid (v = .slice a' es.length c' ∧ Tn.Row wr w.heap.size (.slice a' es.length c') es ∧ es.map (·.t) = opT ⟨tk, tn, tl, tx⟩ :: (kidsTo ts k i).flatMap (tokN ts f) ∧ Below w.heap.size w wr)) (fun _ x _ => E - (intOf x).toNat)
      case atStart => exact ⟨k + 1, _, _, [⟨opT ⟨tk, tn, tl, tx⟩, a1, cc1⟩], by go_num, by omega, by have := HEN.out; omega, rfl, HRow.out, by rw [kidsTo_first]; rfl, HB1.out⟩
      case round =>
        clear HRow HB1
        obtain ⟨i, a', c', es, rfl, hki, hiE, HX⟩ := hrel
        obtain ⟨rfl, hrow, hmap, hbel⟩ := HX.out
        have HRW := hid hrow
        have HMP := hid hmap
        have HBL := hid hbel
        have hlen := congrArg List.length hmap
        rw [List.length_map, List.length_cons] at hlen
        have hkl := HTL.out i hki hiE
        have hE1 := HEN.out
        rw [HN.out] at hE1
        have hes : es.length ≤ 2 * (E - (k + 1)) + 1 := by omega
        have hwB := hbel.size
        clear hrow hmap hbel HX hlen hkl
        by_cases hlt : i < E
        · have hin : i < n := by omega
          have hins : i < ts.length := by rw [HN.out]; exact hin
          have hinn : (i : Int) < (n : Int) := by omega
          have hd1 : decide ((i : Int) < (E : Int)) = true := decide_eq_true (by omega)
          obtain ⟨b', o', e', c0, _⟩ := (HR.out.below HBL.out).kindAt i hins
          obtain ⟨rfl, rfl⟩ : b = b' ∧ o = o' := by cases e'; exact ⟨rfl, rfl⟩
          have HKN := hid (kidsTo_next (ts := ts) hki)
          by_cases hp : parI ts i = (k : Int)
          · rw [if_pos hp] at HKN
            have hd2 : (parI ts i == (k : Int)) = true := by simpa using hp
            generalize parI ts i = P at *
            clear hp e'
            have CT := hid (IH.out i wr (HR.out.below HBL.out) hins (by have := HF.out; rw [HN.out]; omega))
            rw [HN.out] at CT
            have h2i := HTL2.out i hins
            have h2e := kid_end HKK.out hki (by rw [HEE.out]; exact hlt)
            rw [HEE.out] at h2e
            go_wp2_with fail
            refine (CE.out _ (HR.out.below HBL.out)).mono ?_
            rintro e w2 ⟨rfl, rfl⟩
            go_wp2_with fail
            refine CT.out.mono ?_
            rintro e w3 ⟨a3, c3, fs, rfl, hr3, hm3, hne3, hb3⟩
            have hfl : fs.length ≤ 2 * (endN ts i - i) := by have := congrArg List.length hm3; rw [List.length_map] at this; omega
            obtain ⟨g3, hg3, _, hcell⟩ := hr3.cells hne3
            subst hg3
            have HR3 := hid (HRW.out.below hb3)
            obtain ⟨hap, hnb⟩ := HRW.out.apart_later hr3 (Nat.le_refl _)
            have hr4 := hr3.mono hwB
            have HF3 := hid (show ∀ e ∈ fs, OwnAts w3 w.heap.size e.a e.t.attrs ∧ ∀ g o, 0 < e.t.attrs.length → e.a = some ⟨g, o, none⟩ → ¬ (Value.slice a' es.length c').ownBlock = some g from fun e he => ⟨(hr4.ats e he).1, hnb e he⟩)
            have HAP := hid hap
            have HPW := hid hr3.apart
            have HCL := hid hcell
            have HMP2 := hid (show (es ++ fs).map (·.t) = opT ⟨tk, tn, tl, tx⟩ :: (kidsTo ts k (i + 1)).flatMap (tokN ts f) by
              rw [List.map_append, HMP.out, hm3, HKN.out, List.flatMap_append]
              simp)
            have HB3 := hid (bb HBL.out hb3)
            have hsz3 := hb3.size
            have hnn2 : es.length + fs.length ≤ 2097152 := by
              have h1 := congrArg List.length HMP2.out
              rw [List.length_map, List.length_append, List.length_cons] at h1
              have h2 := HTL.out (i + 1) (by omega) (by omega)
              omega
            clear hr3 hm3 hne3 hb3 hap hnb hr4 hcell hfl h2i h2e c0
            go_wp2_with (at_builtin; refine Tn.wpL_join _ rfl _ _ rfl w.heap.size _ es fs rfl HR3.out g3 fs.length c3 rfl rfl HCL.out HF3.out HPW.out HAP.out hnn2 (by omega) ?_; intro a5 c5 w5 hr5 hb5 _)
            have HR5 := hid hr5
            have HB5 := hid (HB3.out.trans hb5)
            clear hr5 hb5
            go_wp2_with fail
            go_roundw
            case rel => exact ⟨i + 1, a5, c5, es ++ fs, by go_num, by omega, by omega, by rw [List.length_append], HR5.out, HMP2.out, HB5.out⟩
            case measure => simp [intOf]; omega
          · rw [if_neg hp, List.append_nil] at HKN
            have hd2 : (parI ts i == (k : Int)) = false := by simpa using hp
            generalize parI ts i = P at *
            clear hp e'
            go_wp2_with fail
            refine (CE.out _ (HR.out.below HBL.out)).mono ?_
            rintro e w2 ⟨rfl, rfl⟩
            go_wp2_with fail
            go_roundw
            case rel => exact ⟨i + 1, a', c', es, by go_num, by omega, by omega, rfl, HRW.out, by rw [HKN.out]; exact HMP.out, HBL.out⟩
            case measure => simp [intOf]; omega
        · have hie : i = E := by omega
          subst hie
          have hd1 : decide ((i : Int) < (i : Int)) = false := decide_eq_false (by omega)
          have HES := hid hes
          clear hlt hiE hes
          obtain ⟨b', o', aa', ca', e', hb', c0, c1, c2, c3, _⟩ := (HR.out.below HBL.out).nodeAt k HKK.out
          obtain ⟨rfl, rfl⟩ : b = b' ∧ o = o' := by cases e'; exact ⟨rfl, rfl⟩
          rw [HTT.out] at c1
          simp only at c1
          clear c0 c2 c3 e'
          have M4 := hid (heap_alloc_new wr (.cells #[.int .i64 2, .string tn, .slice none 0 0, .string ⟨#[]⟩] 50))
          have HL4 := hid ((Below.refl wr.heap.size wr).alloc (Nat.le_refl _) (.cells #[.int .i64 2, .string tn, .slice none 0 0, .string ⟨#[]⟩] 50))
          have HR4 := hid (HRW.out.below HL4.out)
          have HO4 := hid (Tn.Row.one (B := wr.heap.size) (e := ⟨clT ⟨tk, tn, tl, tx⟩, none, 0⟩) (Nat.le_refl wr.heap.size) M4.out (fun h => absurd h (Nat.not_lt_zero _)) (fun g o h => absurd h (Nat.not_lt_zero _)))
          obtain ⟨g4, hg4, hone, hcell⟩ := HO4.out.cells (by simp)
          cases hg4
          clear hone
          have HCL := hid hcell
          have HW2 := hid (show (es ++ [(⟨clT ⟨tk, tn, tl, tx⟩, none, 0⟩ : Tn.E)]).map (·.t) = V by
            rw [List.map_append, HMP.out, HW.out]
            simp)
          have HB4 := hid (HBL.out.alloc hwB (.cells #[.int .i64 2, .string tn, .slice none 0 0, .string ⟨#[]⟩] 50))
          clear hcell
          go_wp2_with fail
          refine (CE.out _ (HR.out.below HBL.out)).mono ?_
          rintro e w2 ⟨rfl, rfl⟩
          go_wp2_with (at_builtin; refine Tn.wpL_join _ rfl _ _ rfl w.heap.size _ es [⟨clT ⟨tk, tn, tl, tx⟩, none, 0⟩] rfl HR4.out w2.heap.size 1 1 rfl rfl HCL.out (fun x hx => ?d1) (List.pairwise_singleton _ _) (fun e he x hx => ?d2) ?d3 ?d4 ?_)
          case d1 =>
            rw [List.mem_singleton] at hx
            subst hx
            exact ⟨fun h => absurd h (Nat.not_lt_zero _), fun g o h => absurd h (Nat.not_lt_zero _)⟩
          case d2 =>
            rw [List.mem_singleton] at hx
            subst hx
            exact fun _ h => absurd h (Nat.not_lt_zero _)
          case d3 => have := HES.out; simp; omega
          case d4 => simp; omega
          intro a5 c5 w5 hr5 hb5 _
          have HR5 := hid hr5
          have HB5 := hid (HB4.out.trans hb5)
          clear hr5 hb5
          go_wp2_with fail
          go_ret
          have hl5 : (es ++ [(⟨clT ⟨tk, tn, tl, tx⟩, none, 0⟩ : Tn.E)]).length = es.length + 1 := by simp
          exact ⟨a5, c5, es ++ [⟨clT ⟨tk, tn, tl, tx⟩, none, 0⟩], by rw [hl5]; rfl, by rw [hl5]; exact HR5.out, HW2.out, by simp, HB5.out⟩

/-- What TokensOf answers. -/
noncomputable def toksT (ts : List Tk) : List Tk := if treeB ts = true then tokN ts ts.length 0 else []

theorem toksT_sz {ts : List Tk} (hz : TksSz 1048576 ts) : TksSz 1048576 (toksT ts) := by
  unfold toksT
  split
  · exact tokN_sz hz _ _
  · exact fun t ht => absurd ht List.not_mem_nil

theorem treeB_P {ts : List Tk} (h : treeB ts = true) : TreeP ts := by
  by_cases q : TreeP ts
  · exact q
  · rw [treeB_f q] at h
    cases h

end Go.Proofs.Ytcjeodgfpnecgaa

namespace Go.Proofs.Ytcjeodgfpnecgaa
open Go.RowKit

theorem c__impl_sign__reference_amp (b : UInt8) (w : World) (h0 : (b.toNat : Int) ≤ 38) (h1 : (38 : Int) ≤ b.toNat) :
    Calls Try.prog 84 #[.int .u8 b.toNat] w fun e w' => e = .returned (.string ⟨#[38, 97, 109, 112, 59]⟩) ∧ w' = w := by
  go_enter Try.func84, Try.ntmps84
  go_wp2
  go_ret
  exact ⟨rfl, rfl⟩

theorem c__impl_sign__reference_lt (b : UInt8) (w : World) (h0 : (b.toNat : Int) ≤ 60) (h1 : (60 : Int) ≤ b.toNat) :
    Calls Try.prog 84 #[.int .u8 b.toNat] w fun e w' => e = .returned (.string ⟨#[38, 108, 116, 59]⟩) ∧ w' = w := by
  go_enter Try.func84, Try.ntmps84
  go_wp2
  go_ret
  exact ⟨rfl, rfl⟩

theorem c__impl_sign__reference_gt (b : UInt8) (w : World) (h0 : (b.toNat : Int) ≤ 62) (h1 : (62 : Int) ≤ b.toNat) :
    Calls Try.prog 84 #[.int .u8 b.toNat] w fun e w' => e = .returned (.string ⟨#[38, 103, 116, 59]⟩) ∧ w' = w := by
  go_enter Try.func84, Try.ntmps84
  go_wp2
  go_ret
  exact ⟨rfl, rfl⟩

theorem c__impl_sign__reference_quot (b : UInt8) (w : World) (h0 : (b.toNat : Int) ≤ 34) (h1 : (34 : Int) ≤ b.toNat) :
    Calls Try.prog 84 #[.int .u8 b.toNat] w fun e w' => e = .returned (.string ⟨#[38, 113, 117, 111, 116, 59]⟩) ∧ w' = w := by
  go_enter Try.func84, Try.ntmps84
  go_wp2
  go_ret
  exact ⟨rfl, rfl⟩

theorem c__impl_sign__reference_no (b : UInt8) (w : World) (h0 : ¬ (b.toNat : Int) = 38) (h1 : ¬ (b.toNat : Int) = 60) (h2 : ¬ (b.toNat : Int) = 62) (h3 : ¬ (b.toNat : Int) = 34) :
    Calls Try.prog 84 #[.int .u8 b.toNat] w fun e w' => e = .returned (.string ⟨#[]⟩) ∧ w' = w := by
  go_enter Try.func84, Try.ntmps84
  go_wp2
  go_ret
  exact ⟨rfl, rfl⟩

theorem c__impl_sign__itself (b : UInt8) (w : World) :
    Calls Try.prog 72 #[.int .u8 b.toNat] w fun e w' => e = .returned (.string ⟨#[b]⟩) ∧ Below w.heap.size w w' := by
  have hown : (w.alloc (.cells #[.int .u8 b.toNat] 5)).ownsRow 0 5 1 (.slice (some ⟨w.heap.size, 0, none⟩) [b].length 1) [b].length (Lib.byteCells [b]) :=
    ⟨rfl, .inr ⟨w.heap.size, 1, #[.int .u8 b.toNat], rfl, Nat.zero_le _, heap_alloc_new w _, Nat.le_refl _, by decide, rfl, rfl⟩⟩
  have hrun := run_str_own (P := Try.prog) (src := 41) (dst := 9) Try.underlying41 Try.underlying5 Try.underlying9 hown
  have hr : (convert 41 9 (.slice (some ⟨w.heap.size, 0, none⟩) 1 1)).run Try.prog (w.alloc (.cells #[.int .u8 b.toNat] 5)) = .ok (.string ⟨#[b]⟩) (w.alloc (.cells #[.int .u8 b.toNat] 5)) := hrun
  clear hown hrun
  go_enter Try.func72, Try.ntmps72
  go_wp2
  go_ret
  exact ⟨rfl, (Below.refl _ _).alloc (Nat.le_refl _) _⟩

theorem c__impl_sign__itself_34 (w : World) : Calls Try.prog 72 #[.int .u8 34] w fun e w' => e = .returned (.string ⟨#[34]⟩) ∧ Below w.heap.size w w' := c__impl_sign__itself 34 w
theorem c__impl_sign__itself_62 (w : World) : Calls Try.prog 72 #[.int .u8 62] w fun e w' => e = .returned (.string ⟨#[62]⟩) ∧ Below w.heap.size w w' := c__impl_sign__itself 62 w

theorem ret_str {a b : List UInt8} (h : a = b) : Ending.returned (.string ⟨a.toArray⟩) = .returned (.string ⟨b.toArray⟩) := by rw [h]

theorem c__impl_sign__inText (b : UInt8) (w : World) :
    Calls Try.prog 74 #[.int .u8 b.toNat] w fun e w' => e = .returned (.string ⟨(escB false b).toArray⟩) ∧ Below w.heap.size w w' := by
  have cases : (b.toNat : Int) = 38 ∨ (b.toNat : Int) = 60 ∨ (b.toNat : Int) = 62 ∨ (b.toNat : Int) = 34 ∨ (¬ (b.toNat : Int) = 38 ∧ ¬ (b.toNat : Int) = 60 ∧ ¬ (b.toNat : Int) = 62 ∧ ¬ (b.toNat : Int) = 34) := by omega
  rcases cases with h | h | h | h | ⟨h0, h1, h2, h3⟩
  · have e : escB false b = [38, 97, 109, 112, 59] := by unfold escB; rw [if_pos (by omega)]
    have g0 : (b.toNat : Int) ≤ 38 := by omega
    have g1 : (38 : Int) ≤ b.toNat := by omega
    rw [e]; clear e h
    go_enter Try.func74, Try.ntmps74
    go_wp2_with (go_at_call 84; refine (c__impl_sign__reference_amp b _ g0 g1).mono ?_; rintro e w' ⟨rfl, rfl⟩)
    go_ret
    exact ⟨rfl, Below.refl _ _⟩
  · have e : escB false b = [38, 108, 116, 59] := by unfold escB; rw [if_neg (by omega), if_pos (by omega)]
    have g0 : (b.toNat : Int) ≤ 60 := by omega
    have g1 : (60 : Int) ≤ b.toNat := by omega
    rw [e]; clear e h
    go_enter Try.func74, Try.ntmps74
    go_wp2_with (go_at_call 84; refine (c__impl_sign__reference_lt b _ g0 g1).mono ?_; rintro e w' ⟨rfl, rfl⟩)
    go_ret
    exact ⟨rfl, Below.refl _ _⟩
  · have e : escB false b = [38, 103, 116, 59] := by unfold escB; rw [if_neg (by omega), if_neg (by omega), if_pos (by omega)]; rfl
    have g0 : (b.toNat : Int) ≤ 62 := by omega
    have g1 : (62 : Int) ≤ b.toNat := by omega
    rw [e]; clear e h
    go_enter Try.func74, Try.ntmps74
    go_wp2_with (go_at_call 84; refine (c__impl_sign__reference_gt b _ g0 g1).mono ?_; rintro e w' ⟨rfl, rfl⟩)
    go_ret
    exact ⟨rfl, Below.refl _ _⟩
  · have e : escB false b = [b] := by unfold escB; rw [if_neg (by omega), if_neg (by omega), if_neg (by omega), if_pos (by omega)]; rfl
    rw [e]; clear e
    obtain rfl : b = 34 := UInt8.toNat_inj.1 (show b.toNat = 34 by omega)
    clear h
    go_enter Try.func74, Try.ntmps74
    go_wp2_with (go_at_call 72; refine (c__impl_sign__itself_34 _).mono ?_; rintro e w' ⟨rfl, hb⟩)
    go_ret
    exact ⟨rfl, hb⟩
  · have e : escB false b = [b] := by unfold escB; rw [if_neg (by omega), if_neg (by omega), if_neg (by omega), if_neg (by omega)]
    rw [e]; clear e
    go_enter Try.func74, Try.ntmps74
    go_wp2_with (first | (go_at_call 84; refine (c__impl_sign__reference_no b _ h0 h1 h2 h3).mono ?_; rintro e w' ⟨rfl, rfl⟩) | (go_at_call 72; refine (c__impl_sign__itself b _).mono ?_; rintro e w' ⟨rfl, hb⟩))
    go_ret
    exact ⟨rfl, hb⟩

theorem c__impl_sign__inQuotes (b : UInt8) (w : World) :
    Calls Try.prog 75 #[.int .u8 b.toNat] w fun e w' => e = .returned (.string ⟨(escB true b).toArray⟩) ∧ Below w.heap.size w w' := by
  have cases : (b.toNat : Int) = 38 ∨ (b.toNat : Int) = 60 ∨ (b.toNat : Int) = 62 ∨ (b.toNat : Int) = 34 ∨ (¬ (b.toNat : Int) = 38 ∧ ¬ (b.toNat : Int) = 60 ∧ ¬ (b.toNat : Int) = 62 ∧ ¬ (b.toNat : Int) = 34) := by omega
  rcases cases with h | h | h | h | ⟨h0, h1, h2, h3⟩
  · have e : escB true b = [38, 97, 109, 112, 59] := by unfold escB; rw [if_pos (by omega)]
    have g0 : (b.toNat : Int) ≤ 38 := by omega
    have g1 : (38 : Int) ≤ b.toNat := by omega
    rw [e]; clear e h
    go_enter Try.func75, Try.ntmps75
    go_wp2_with (go_at_call 84; refine (c__impl_sign__reference_amp b _ g0 g1).mono ?_; rintro e w' ⟨rfl, rfl⟩)
    go_ret
    exact ⟨rfl, Below.refl _ _⟩
  · have e : escB true b = [38, 108, 116, 59] := by unfold escB; rw [if_neg (by omega), if_pos (by omega)]
    have g0 : (b.toNat : Int) ≤ 60 := by omega
    have g1 : (60 : Int) ≤ b.toNat := by omega
    rw [e]; clear e h
    go_enter Try.func75, Try.ntmps75
    go_wp2_with (go_at_call 84; refine (c__impl_sign__reference_lt b _ g0 g1).mono ?_; rintro e w' ⟨rfl, rfl⟩)
    go_ret
    exact ⟨rfl, Below.refl _ _⟩
  · have e : escB true b = [b] := by unfold escB; rw [if_neg (by omega), if_neg (by omega), if_pos (by omega)]; rfl
    rw [e]; clear e
    obtain rfl : b = 62 := UInt8.toNat_inj.1 (show b.toNat = 62 by omega)
    clear h
    go_enter Try.func75, Try.ntmps75
    go_wp2_with (go_at_call 72; refine (c__impl_sign__itself_62 _).mono ?_; rintro e w' ⟨rfl, hb⟩)
    go_ret
    exact ⟨rfl, hb⟩
  · have e : escB true b = [38, 113, 117, 111, 116, 59] := by unfold escB; rw [if_neg (by omega), if_neg (by omega), if_neg (by omega), if_pos (by omega)]; rfl
    have g0 : (b.toNat : Int) ≤ 34 := by omega
    have g1 : (34 : Int) ≤ b.toNat := by omega
    rw [e]; clear e h
    go_enter Try.func75, Try.ntmps75
    go_wp2_with (go_at_call 84; refine (c__impl_sign__reference_quot b _ g0 g1).mono ?_; rintro e w' ⟨rfl, rfl⟩)
    go_ret
    exact ⟨rfl, Below.refl _ _⟩
  · have e : escB true b = [b] := by unfold escB; rw [if_neg (by omega), if_neg (by omega), if_neg (by omega), if_neg (by omega)]
    rw [e]; clear e
    go_enter Try.func75, Try.ntmps75
    go_wp2_with (first | (go_at_call 84; refine (c__impl_sign__reference_no b _ h0 h1 h2 h3).mono ?_; rintro e w' ⟨rfl, rfl⟩) | (go_at_call 72; refine (c__impl_sign__itself b _).mono ?_; rintro e w' ⟨rfl, hb⟩))
    go_ret
    exact ⟨rfl, hb⟩

end Go.Proofs.Ytcjeodgfpnecgaa
