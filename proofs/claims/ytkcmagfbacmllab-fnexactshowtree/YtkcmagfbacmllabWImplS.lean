/- Contract of ShowTree of the program. -/
import Derived.Test.YtkcmagfbacmllabWImplK
import Derived.Test.YtkcmagfbacmllabWImplX
import Derived.Test.YtkcmagfbacmllabWBackN
import Derived.Test.YtkcmagfbacmllabWShowS
import Derived.Test.YtkcmagfbacmllabNImplS
namespace Go.Proofs.Ytkcmagfbacmllab
open Go.RowKit
set_option linter.unusedVariables false
set_option linter.unusedSimpArgs false

theorem shownN_all (ts : List Tk) : shownN ts = showAll (toksT ts) := by
  unfold shownN toksT
  split <;> rfl

theorem toksT_facts {ts : List Tk} (hz : TksSz 1048576 ts) : (toksT ts).length ≤ 100 ∧ ∀ t ∈ toksT ts, tokB t = true ∧ TkSz 1048576 t ∧ (showS t).size ≤ 60000000 := by
  have hsz := toksT_sz hz
  unfold toksT at hsz ⊢
  split
  · rename_i q
    rw [if_pos q] at hsz
    have ht := treeB_P q
    have h1 := ht.1
    have h2 := ht.2.1
    have h3 := tokN_len (ts := ts) ts.length 0 (by omega)
    have h4 := endN_le (ts := ts) (k := 0) (by omega)
    exact ⟨by omega, fun t hm => ⟨tokN_right ht _ _ (by omega) t hm, hsz t hm, showS_size (hsz t hm) (tokN_six (tree_six ht) _ _ t hm)⟩⟩
  · exact ⟨Nat.zero_le _, fun t hm => absurd hm List.not_mem_nil⟩

/-- A row of tokens stands behind what a builder does. -/
theorem Tn.Row.others {w w' : World} {B b : Nat} {v : Value} {es : List Tn.E} (h : Tn.Row w B v es) (hk : Lib.OthersKept 5 (some b) w w') (hb : b < B) : Tn.Row w' B v es := by
  refine ⟨own_others h.own hk hb (by decide), fun e he => ⟨fun hl => ?_, (h.ats e he).2⟩, h.apart⟩
  obtain ⟨g, o, cu, e1, e2, e3, e4⟩ := (h.ats e he).1 hl
  exact ⟨g, o, cu, e1, e2, hk g _ e3 (fun e => by have := Option.some.inj e; omega) (fun c fz e => by injection e with _ e5 _; exact absurd e5 (by decide)), e4⟩

set_option maxRecDepth 8000 in
set_option maxHeartbeats 4000000 in
theorem cShowTreeI (a : Option Addr) (cap : Nat) (ts : List Tk) (w : World) (hR : TkRow w a ts) (hn : ts.length ≤ 1048576) (hz : TksSz 1048576 ts) :
    Calls Try.prog 10 #[.slice a ts.length cap] w fun e w' => e = .returned (.string (shownN ts)) ∧ Below w.heap.size w w' := by
  have HB0 := hid ((Below.refl w.heap.size w).alloc (Nat.le_refl _) (.cells #[.pointer none, .slice none 0 0] 49))
  have C := hid (cTokensOfI a cap ts (w.alloc (.cells #[.pointer none, .slice none 0 0] 49)) (hR.below HB0.out) hn hz)
  have HKS := hid (toksT_facts hz)
  have HF := hid (Lib.fresh_isBuilder 49 5 w)
  rw [shownN_all]
  obtain ⟨K, hK⟩ : ∃ K, toksT ts = K := ⟨_, rfl⟩
  rw [hK] at C HKS ⊢
  clear hR hz hK
  generalize ts.length = n at *
  go_enter Try.func10, Try.ntmps10
  go_wp2_with fail
  refine C.out.mono ?_
  rintro e w1 ⟨a1, c1, es, rfl, hr1, hm1, hb1⟩
  have HO := hid (show Tn.Row w1 (w.heap.size + 1) (.slice a1 es.length c1) es by have h := hr1; rw [show (w.alloc (.cells #[.pointer none, .slice none 0 0] 49)).heap.size = w.heap.size + 1 by simp] at h; exact h)
  have HMP := hid hm1
  have HI1 := hid (isBuilder_below HF.out hb1)
  have HB1 := hid (bb HB0.out hb1)
  have hsz1 : w.heap.size < w1.heap.size := by have := hb1.size; simp at this; omega
  have HKL := hid (show K.length = es.length by rw [← hm1, List.length_map])
  obtain ⟨L, hL⟩ : ∃ L, es.length = L := ⟨_, rfl⟩
  have HL := hid hL
  have hLn : L ≤ 100 := by have := HKS.out.1; rw [HKL.out, hL] at this; exact this
  rw [hL] at HO HKL ⊢
  clear hb1 hr1 hm1 C hL HB0
  go_wp2_with fail
  go_loopw [9] (fun k wr => ∃ i : Nat, k = .int .i64 (i : Int) ∧ i ≤ L ∧ Hid (Lib.IsBuilder 49 5 w.heap.size w.heap.size (Lib.strCells (showAll (K.take i))) wr) ∧ Hid (Tn.Row wr (w.heap.size + 1) (.slice a1 L c1) es) ∧ Hid (Below w.heap.size w wr) ∧ w.heap.size < wr.heap.size) (fun k _ => L - (intOf k).toNat)
  case atStart => exact ⟨0, rfl, Nat.zero_le _, HI1.out, HO.out, HB1.out, hsz1⟩
  case round =>
    clear HI1 HO HB1 HF
    obtain ⟨i, rfl, hi, HI, HO, HB, hsz⟩ := hrel
    have hjs : (showAll (K.take i)).size ≤ 60000000 * i := by
      have := showAll_size (l := K.take i) (fun t ht => (HKS.out.2 t (List.mem_of_mem_take ht)).2.2)
      rw [List.length_take] at this
      have h2 : min i K.length ≤ i := Nat.min_le_left _ _
      have h3 := Nat.mul_le_mul_left 60000000 h2
      omega
    by_cases hlt : i < L
    · have hiK : i < K.length := by rw [HKL.out]; exact hlt
      have hin : (i : Int) < (L : Int) := by omega
      have HX := hid (show showAll (K.take (i + 1)) = showAll (K.take i) ++ showS K[i] by rw [take_snocN hiK, showAll_snoc])
      obtain ⟨hq1, hq2, hq3⟩ := HKS.out.2 K[i] (List.getElem_mem hiK)
      obtain ⟨a2, c2, ea, htk⟩ := HO.out.tkRow
      rw [HMP.out] at htk
      obtain ⟨rfl, rfl⟩ : a1 = a2 ∧ c1 = c2 := by cases ea; exact ⟨rfl, rfl⟩
      obtain ⟨b, o, aa, ca, rfl, hb, k0, k1, k2, k3, cr⟩ := htk i hiK
      have e0 : shownT K[i] = showS K[i] := by unfold shownT; rw [if_pos hq1]
      have HBA := hid ((Below.refl wr.heap.size wr).alloc (Nat.le_refl _) (.cells #[.int .i64 K[i].kind, .string K[i].name, .slice aa K[i].attrs.length ca, .string K[i].text] 53))
      have CS := hid (fun wx (h : AtRow wx aa K[i].attrs) => cShowTokenI K[i] aa ca wx h hq2)
      have CR := hid (cr.below HBA.out)
      rw [e0] at CS
      generalize K[i] = t at *
      obtain ⟨tk, tn, tl, tx⟩ := t
      simp only [tkV] at k0 k1 k2 k3 CS CR HBA
      generalize showS ⟨tk, tn, tl, tx⟩ = SS at *
      obtain ⟨m, hm⟩ : ∃ m, tl.length = m := ⟨_, rfl⟩
      rw [hm] at k2 HBA CS CR
      clear ea htk cr hq1 hq2 e0 hm
      go_wp2_with fail
      refine (CS.out _ CR.out).mono ?_
      rintro e w2 ⟨rfl, hb2⟩
      have HB2 := hid (bb HBA.out hb2)
      have C2 := hid (writeString w.heap.size w.heap.size (Lib.strCells (showAll (K.take i))) SS w2 (isBuilder_below HI.out HB2.out) (by rw [strC_len]; omega) (by have := HB2.out.size; omega))
      clear hb2 hjs
      go_wp2_with fail
      refine C2.out.mono ?_
      rintro e w3 ⟨rfl, hI3, hb3, hk3⟩
      have HI3 := hid hI3
      have HB3 := hid ((bb HB.out HB2.out).trans hb3)
      have HO3 := hid ((HO.out.below HB2.out).others hk3 (Nat.lt_succ_self _))
      have hsz3 : w.heap.size < w3.heap.size := by have := hb3.size; have := HB2.out.size; omega
      clear hI3 hb3 hk3 C2
      go_wp2_with fail
      go_roundw
      case rel => exact ⟨i + 1, by go_num, by omega, by rw [HX.out, ← strC_app]; exact HI3.out, HO3.out, HB3.out, hsz3⟩
      case measure => simp [intOf]; omega
    · have hie : i = L := by omega
      subst hie
      have e1 : showAll (K.take i) = showAll K := by rw [List.take_of_length_le (by rw [HKL.out]; exact Nat.le_refl _)]
      rw [e1] at HI
      obtain ⟨V, hV⟩ : ∃ V, showAll K = V := ⟨_, rfl⟩
      have HV := hid hV
      rw [hV] at HI
      clear hV
      have e2 := strC_eta V
      have hI2 := HI.out
      rw [Lib.strCells_eq] at hI2
      have C := hid (fun h => Try.Builder_String_any _ _ _ wr hI2 h)
      rw [e2] at C
      clear hI2 e1 e2 hjs
      go_wp2_with fail
      refine (C.out (Nat.le_of_lt hsz)).mono ?_
      rintro e w2 ⟨rfl, hb2⟩
      have HB2 := hid (HB.out.trans hb2)
      go_wp2_with fail
      go_ret
      exact ⟨by rw [HV.out]; rfl, HB2.out⟩

end Go.Proofs.Ytkcmagfbacmllab
