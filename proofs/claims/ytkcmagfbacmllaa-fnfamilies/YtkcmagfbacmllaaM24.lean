/- Contract of KidsOf of the program. Contract of TextIn of the program. The road of FnFamilies, over what its draw hands over. -/
import Derived.Test.YtkcmagfbacmllaaM23
import Derived.Test.YtkcmagfbacmllaaM13
import Derived.Test.YtkcmagfbacmllaaM22
namespace Go.Proofs.Ytkcmagfbacmllaa
open Go.RowKit
set_option linter.unusedVariables false
set_option linter.unusedSimpArgs false

theorem kid_ahead {ts : List Tk} (h : TreeP ts) {i k : Nat} (hi : i < ts.length) (hp : parI ts i = (k : Int)) : k < i := by
  rcases Nat.eq_zero_or_pos i with h0 | h0
  · subst h0
    rw [h.2.2.1] at hp
    omega
  · rcases (h.2.2.2.2 i hi).2.1 with h' | ⟨p, hm, e, _⟩
    · omega
    · obtain ⟨j, rfl⟩ : ∃ j, i = j + 1 := ⟨i - 1, by omega⟩
      have := (linked_all j (fun m hm => (h.2.2.2.2 m (by omega)).2.1)).2 p hm
      omega

theorem kidsTo_step {ts : List Tk} {k e : Nat} (h : parI ts e = (k : Int) → k < e) : kidsTo ts k (e + 1) = kidsTo ts k e ++ (if parI ts e = (k : Int) then [e] else []) := by
  unfold kidsTo
  rw [List.range_succ, List.filter_append]
  congr 1
  by_cases q : parI ts e = (k : Int)
  · simp [h q, q]
  · simp [q]

set_option maxRecDepth 8000 in
set_option maxHeartbeats 4000000 in
theorem cKidsOfI (a : Option Addr) (cap : Nat) (ts : List Tk) (x : Int) (w : World) (hR : TkRow w a ts) (hn : ts.length ≤ 1048576) (hz : TksSz 1048576 ts) :
    Calls Try.prog 11 #[.slice a ts.length cap, .int .i64 x] w fun e w' => ∃ v, e = .returned v ∧ w'.ownsRow w.heap.size 2 1 v (kidsI ts x).length (intC (kidsI ts x)) ∧ Below w.heap.size w w' := by
  have C := hid (cThere a cap ts x w hR hn hz)
  have HR := hid hR
  have HZ := hid hz
  cases q : hasB ts x
  · have e1 : kidsI ts x = [] := by unfold kidsI; rw [q]; rfl
    rw [e1]
    rw [q] at C
    clear hz hR e1
    generalize ts.length = n at *
    go_enter Try.func11, Try.ntmps11
    go_wp2_with fail
    refine C.out.mono ?_
    rintro e w1 ⟨rfl, hb1⟩
    have HB1 := hid hb1
    clear hb1
    go_wp2_with fail
    go_ret
    exact ⟨_, rfl, World.ownsRow_nil _ _ _ _, HB1.out⟩
  obtain ⟨hT, k, rfl, hk⟩ := hasB_t q
  have e1 : kidsI ts (k : Int) = kidsN ts k := by unfold kidsI; rw [q]; rfl
  obtain ⟨i0, hi, hz0, hz1, hz2⟩ := info_parts info64
  have HI := hid (And.intro hi (And.intro hz0 (And.intro hz1 hz2)))
  have HAH := hid (fun i (h : i < ts.length) => kid_ahead hT h (k := k))
  rw [e1]
  rw [q] at C
  clear hz hR e1 q hT hi hz0 hz1 hz2
  obtain ⟨V, hV⟩ : ∃ V, kidsN ts k = V := ⟨_, rfl⟩
  have HV := hid hV
  rw [hV]
  clear hV
  obtain ⟨n, hnn⟩ : ∃ n, ts.length = n := ⟨_, rfl⟩
  have HN := hid hnn
  rw [hnn] at hn hk C ⊢
  clear hnn
  go_enter Try.func11, Try.ntmps11
  go_wp2_with fail
  refine C.out.mono ?_
  rintro e w1 ⟨rfl, hb1⟩
  have HB1 := hid hb1
  clear hb1 C
  go_wp2_with fail
  go_loopw [5, 14] (fun v x wr => ∃ e : Nat, x = .int .i64 (e : Int) ∧ e ≤ n ∧ Hid (wr.ownsRow w.heap.size 2 1 v (kidsTo ts k e).length (intC (kidsTo ts k e))) ∧ Hid (Below w.heap.size w wr)) (fun _ x _ => n - (intOf x).toNat)
  case atStart => exact ⟨0, rfl, Nat.zero_le _, World.ownsRow_nil _ _ _ _, HB1.out⟩
  case round =>
    clear HB1
    obtain ⟨e, rfl, h2, HO, HB⟩ := hrel
    by_cases hlt : e < n
    case neg =>
      have hee : e = n := by omega
      subst hee
      have HW := hid (show kidsTo ts k e = V by rw [← HV.out]; unfold kidsN; rw [HN.out])
      have HO2 := HO.out
      rw [HW.out] at HO2
      have HO3 := hid HO2
      clear HO2 HO
      go_wp2_with fail
      go_ret
      exact ⟨_, rfl, HO3.out, HB.out⟩
    have hes : e < ts.length := by rw [HN.out]; exact hlt
    have hin : (e : Int) < (n : Int) := by omega
    have HX := hid (kidsTo_step (ts := ts) (k := k) (HAH.out e hes))
    have HPI := hid (parI_at hes)
    obtain ⟨b, o, aa, ca, rfl, hb, c0, c1, c2, c3, cr⟩ := HR.out.below HB.out e hes
    clear cr
    rw [HPI.out] at HX
    have HOB := hid (HO.out.alloc (.cells #[.int .i64 ts[e].kind, .string ts[e].name, .slice aa ts[e].attrs.length ca, .string ts[e].text] 34))
    have HBB := hid (HB.out.alloc HB.out.size (.cells #[.int .i64 ts[e].kind, .string ts[e].name, .slice aa ts[e].attrs.length ca, .string ts[e].text] 34))
    have hsz := HB.out.size
    have hlen := kidsTo_len ts k e
    by_cases hp : ts[e].kind = (k : Int)
    · rw [if_pos hp] at HX
      have hd : (ts[e].kind == (k : Int)) = true := by simpa using hp
      clear HPI hp
      generalize ts[e].kind = P at *
      generalize ts[e].name = nm at *
      generalize ts[e].attrs.length = al at *
      generalize ts[e].text = tx at *
      obtain ⟨hi, hz0, hz1, hz2⟩ := HI.out
      have HOA := hid (HOB.out.alloc (.cells #[.int .i64 (e : Int)] 2))
      have hlen2 : (intC (kidsTo ts k e)).length ≤ e := by rw [intC_len]; exact hlen
      have HL2 := hid hlen2
      obtain ⟨a5, c5, hv5⟩ := own_len HO.out
      clear hlen2
      subst hv5
      obtain ⟨kl, hkl⟩ : ∃ kl, (kidsTo ts k e).length = kl := ⟨_, rfl⟩
      rw [hkl] at hlen HOA HO HOB ⊢
      have HKL := hid hkl
      clear hkl
      go_wp2_with (at_builtin; refine wpList_append_own _ rfl _ _ 28 rfl w.heap.size 2 i0 (.int .i64 0) 1 8 Try.underlying28 hi hz0 hz1 hz2 rfl (by decide) _ _ _ rfl HOA.out ⟨wr.heap.size + 1, 0, none⟩ 1 1 [.int .i64 (e : Int)] rfl rfl ?c1 ?c2 ?c3 ?c4 ?c5 ?_)
      case c1 =>
        have := one_cell64 (wr.alloc (.cells #[.int .i64 P, .string nm, .slice aa al ca, .string tx] 34)) (.int .i64 (e : Int))
        rw [show (wr.alloc (.cells #[.int .i64 P, .string nm, .slice aa al ca, .string tx] 34)).heap.size = wr.heap.size + 1 by simp] at this
        exact this
      case c2 => exact one_one64 _
      case c3 => unfold maxLen; omega
      case c4 => omega
      case c5 => simp; omega
      intro v' w2 hown' hgrow _
      have HO2 := hid (show w2.ownsRow w.heap.size 2 1 v' (kidsTo ts k (e + 1)).length (intC (kidsTo ts k (e + 1))) by rw [HX.out, intC_app, List.length_append, HKL.out]; exact hown')
      have HB2 := hid ((HBB.out.alloc (by simp; omega) (.cells #[.int .i64 (e : Int)] 2)).grown hgrow (by simp; omega) (fun g hg => (HOA.out.lt g hg).1))
      clear hown' hgrow
      go_wp2_with fail
      go_roundw
      case rel => exact ⟨e + 1, by go_num, by omega, HO2.out, HB2.out⟩
      case measure => simp [intOf]; omega
    · rw [if_neg hp, List.append_nil] at HX
      have hd : (ts[e].kind == (k : Int)) = false := by simpa using hp
      clear hp HPI
      generalize ts[e].kind = P at *
      generalize ts[e].name = nm at *
      generalize ts[e].attrs.length = al at *
      generalize ts[e].text = tx at *
      go_wp2_with fail
      go_roundw
      case rel => exact ⟨e + 1, by go_num, by omega, by rw [HX.out]; exact HOB.out, HBB.out⟩
      case measure => simp [intOf]; omega

end Go.Proofs.Ytkcmagfbacmllaa

namespace Go.Proofs.Ytkcmagfbacmllaa
open Go.RowKit
set_option linter.unusedVariables false
set_option linter.unusedSimpArgs false

theorem strC_app (a b : ByteArray) : Lib.strCells a ++ Lib.strCells b = Lib.strCells (a ++ b) := by simp [Lib.strCells]

theorem strC_len (a : ByteArray) : (Lib.strCells a).length = a.size := by
  rw [Lib.strCells_eq]
  simp [Lib.byteCells]

theorem strC_eta (s : ByteArray) : (⟨s.data.toList.toArray⟩ : ByteArray) = s := by
  apply ByteArray.ext
  simp

theorem textI_join (ts : List Tk) (x : Int) : textI ts x = joinT ts (kidsI ts x) := by
  unfold textI kidsI
  split <;> rfl

/-- A row of the call's own that is no row of bytes stands behind what a builder does. -/
theorem own_others {w w' : World} {B : Nat} {e u : TypeId} {s n b : Nat} {v : Value} {xs : List Value} (h : w.ownsRow B e s v n xs) (hk : Lib.OthersKept u (some b) w w') (hb : b < B) (hT : ¬ e = u) : w'.ownsRow B e s v n xs := by
  refine ⟨h.1, ?_⟩
  rcases h.2 with h' | ⟨g, cap, cur, h1, h2, h3, h4⟩
  · exact .inl h'
  · exact .inr ⟨g, cap, cur, h1, h2, hk g _ h3 (fun e => by have := Option.some.inj e; omega) (fun c fz e => by injection e with _ e2 _; exact hT e2), h4⟩

set_option maxRecDepth 8000 in
set_option maxHeartbeats 4000000 in
theorem cTextInI (a : Option Addr) (cap : Nat) (ts : List Tk) (x : Int) (w : World) (hR : TkRow w a ts) (hn : ts.length ≤ 1048576) (hz : TksSz 1048576 ts) :
    Calls Try.prog 12 #[.slice a ts.length cap, .int .i64 x] w fun e w' => e = .returned (.string (textI ts x)) ∧ Below w.heap.size w w' := by
  have HR := hid hR
  have HB0 := hid ((Below.refl w.heap.size w).alloc (Nat.le_refl _) (.cells #[.pointer none, .slice none 0 0] 57))
  have C := hid (cKidsOfI a cap ts x (w.alloc (.cells #[.pointer none, .slice none 0 0] 57)) (hR.below HB0.out) hn hz)
  have HKS := hid (show (∀ q ∈ kidsI ts x, q < ts.length) ∧ (∀ i, (joinT ts ((kidsI ts x).take i)).size ≤ 60 * i) ∧ (kidsI ts x).length ≤ ts.length ∧ ∀ q ∈ kidsI ts x, (textAt ts q).size ≤ 60 by
    unfold kidsI
    split
    · rename_i q
      have ht := (hasB_t q).1
      exact ⟨fun q hq => kidsN_lt hq, fun i => by
        have := joinT_size (tree_text ht) ((kidsN ts x.toNat).take i)
        rw [List.length_take] at this
        omega, kidsTo_len _ _ _, fun q _ => tree_text ht q⟩
    · exact ⟨fun q hq => absurd hq List.not_mem_nil, fun i => by rw [List.take_nil]; exact Nat.zero_le _, Nat.zero_le _, fun q hq => absurd hq List.not_mem_nil⟩)
  have HF := hid (Lib.fresh_isBuilder 57 5 w)
  rw [textI_join]
  obtain ⟨K, hK⟩ : ∃ K, kidsI ts x = K := ⟨_, rfl⟩
  rw [hK] at C HKS ⊢
  clear hR hz hK
  obtain ⟨n, hnn⟩ : ∃ n, ts.length = n := ⟨_, rfl⟩
  have HN := hid hnn
  rw [hnn] at hn C ⊢
  clear hnn
  go_enter Try.func12, Try.ntmps12
  go_wp2_with fail
  refine C.out.mono ?_
  rintro e w1 ⟨v, rfl, ho, hb1⟩
  obtain ⟨⟨av, cv, hv⟩, _⟩ := row64 ho
  have HO := hid (show w1.ownsRow (w.heap.size + 1) 2 1 v K.length (intC K) by have h := ho; rw [show (w.alloc (.cells #[.pointer none, .slice none 0 0] 57)).heap.size = w.heap.size + 1 by simp] at h; exact h)
  have HI1 := hid (isBuilder_below HF.out hb1)
  have HB1 := hid (bb HB0.out hb1)
  have hsz1 : w.heap.size < w1.heap.size := by have := hb1.size; simp at this; omega
  obtain ⟨L, hL⟩ : ∃ L, K.length = L := ⟨_, rfl⟩
  have HL := hid hL
  have hLn : L ≤ 1048576 := by have := HKS.out.2.2.1; rw [HN.out, hL] at this; omega
  rw [hL] at hv HO
  subst hv
  clear hb1 ho C hL HB0
  go_wp2_with fail
  go_loopw [12] (fun k wr => ∃ i : Nat, k = .int .i64 (i : Int) ∧ i ≤ L ∧ Hid (Lib.IsBuilder 57 5 w.heap.size w.heap.size (Lib.strCells (joinT ts (K.take i))) wr) ∧ Hid (wr.ownsRow (w.heap.size + 1) 2 1 (.slice av L cv) L (intC K)) ∧ Hid (Below w.heap.size w wr) ∧ w.heap.size < wr.heap.size) (fun k _ => L - (intOf k).toNat)
  case atStart => exact ⟨0, rfl, Nat.zero_le _, HI1.out, HO.out, HB1.out, hsz1⟩
  case round =>
    clear HI1 HO HB1 HF
    obtain ⟨i, rfl, hi, HI, HO, HB, hsz⟩ := hrel
    have hjs := HKS.out.2.1 i
    by_cases hlt : i < L
    · have hiK : i < K.length := by rw [HL.out]; exact hlt
      have hin : (i : Int) < (L : Int) := by omega
      have HX := hid (show joinT ts (K.take (i + 1)) = joinT ts (K.take i) ++ textAt ts K[i] by rw [take_snocN hiK, joinT_snoc])
      have hq := HKS.out.1 K[i] (List.getElem_mem hiK)
      have htx := HKS.out.2.2.2 K[i] (List.getElem_mem hiK)
      have ho := HO.out
      rw [← HL.out] at ho
      obtain ⟨g, cg, eg, hgl, c0⟩ := (row64 ho).2 i hiK
      obtain ⟨rfl, rfl⟩ : av = some ⟨g, 0, none⟩ ∧ cv = cg := by cases eg; exact ⟨rfl, rfl⟩
      obtain ⟨b, o, aa, ca, ea, hb, c1, c2, c3, c4, cr⟩ := (HR.out.below HB.out) K[i] hq
      rw [textAt_at hq] at htx HX
      have hqn : (K[i] : Int) < (n : Int) := by rw [HN.out] at hq; omega
      subst ea
      clear c1 c2 c3 eg ho cr
      generalize ts[K[i]].text = T at *
      generalize K[i] = q at *
      have C2 := hid (writeString w.heap.size w.heap.size (Lib.strCells (joinT ts (K.take i))) T wr HI.out (by rw [strC_len]; omega) (Nat.le_of_lt hsz))
      clear hjs
      go_wp2_with fail
      refine C2.out.mono ?_
      rintro e w2 ⟨rfl, hI2, hb2, hk2⟩
      have HI2 := hid hI2
      have HB2 := hid (HB.out.trans hb2)
      have HO2 := hid (own_others HO.out hk2 (Nat.lt_succ_self _) (by decide))
      have hsz2 : w.heap.size < w2.heap.size := by have := hb2.size; omega
      clear hI2 hb2 hk2 C2
      go_wp2_with fail
      go_roundw
      case rel => exact ⟨i + 1, by go_num, by omega, by rw [HX.out, ← strC_app]; exact HI2.out, HO2.out, HB2.out, hsz2⟩
      case measure => simp [intOf]; omega
    · have hie : i = L := by omega
      subst hie
      have e1 : joinT ts (K.take i) = joinT ts K := by rw [List.take_of_length_le (by rw [HL.out]; exact Nat.le_refl _)]
      rw [e1] at HI
      obtain ⟨V, hV⟩ : ∃ V, joinT ts K = V := ⟨_, rfl⟩
      have HV := hid hV
      rw [hV] at HI
      clear hV
      have e2 := strC_eta V
      have hI2 := HI.out
      rw [Lib.strCells_eq] at hI2
      have C := hid (fun h => Try.Builder_String_any _ _ _ wr hI2 h)
      rw [e2] at C
      clear hI2 e1 e2 hjs
      go_wp2_with fail
      refine (C.out (Nat.le_of_lt hsz)).mono ?_
      rintro e w2 ⟨rfl, hb2⟩
      have HB2 := hid (HB.out.trans hb2)
      go_wp2_with fail
      go_ret
      exact ⟨by rw [HV.out]; rfl, HB2.out⟩

end Go.Proofs.Ytkcmagfbacmllaa

namespace Go.Proofs.Ytkcmagfbacmllaa
open Go.RowKit
set_option linter.unusedVariables false
set_option linter.unusedSimpArgs false

set_option maxHeartbeats 2000000 in
theorem cLikeInts (a c : Option Addr) (cap cap2 : Nat) (l : List Nat) (w : World) (hR : IntRow w a l) (hT : IntRow w c l) (hn : l.length ≤ 1048576) :
    Calls Try.prog 14 #[.slice a l.length cap, .slice c l.length cap2] w fun e w' => e = .returned (.bool true) ∧ Below w.heap.size w w' := by
  have HR := hid hR
  have HT := hid hT
  clear hR hT
  obtain ⟨n, hnn⟩ : ∃ n, l.length = n := ⟨_, rfl⟩
  have HN := hid hnn
  rw [hnn] at hn ⊢
  clear hnn
  go_enter Try.func14, Try.ntmps14
  go_wp2
  go_loopw [5] (fun k wr => ∃ i : Nat, k = .int .i64 (i : Int) ∧ i ≤ n ∧ Hid (Below w.heap.size w wr)) (fun k _ => n - (intOf k).toNat)
  case atStart => exact ⟨0, rfl, Nat.zero_le _, Below.refl _ _⟩
  case round =>
    obtain ⟨i, rfl, hi, HB⟩ := hrel
    by_cases hlt : i < n
    · have his : i < l.length := by rw [HN.out]; exact hlt
      have hin : (i : Int) < (n : Int) := by omega
      obtain ⟨b, o, rfl, hb, c1⟩ := HR.out.below HB.out i his
      obtain ⟨b2, o2, rfl, hb', k1⟩ := HT.out.below HB.out i his
      generalize l[i] = x at *
      have hd : ((x : Int) == (x : Int)) = true := by simp
      go_wp2_with fail
      go_quiet (fail)
      go_wp2_with fail
      go_roundw
      case rel => exact ⟨i + 1, by go_num, by omega, below_drewN HB.out _⟩
      case measure => simp [intOf]; omega
    · have hie : i = n := by omega
      subst hie
      go_wp2_with fail
      go_ret
      exact ⟨rfl, HB.out⟩

/-- What the draw of a tree and of a place in it must hand over. -/
def DrawnAt (w : World) (e : Ending) (w' : World) : Prop :=
  ∃ a' c' ts x, e = .returned (.tuple #[.slice a' (ts : List Tk).length c', .int .i64 x]) ∧ TkRow w' a' ts ∧ ts.length ≤ 1000000 ∧ TksSz 1048576 ts ∧ (Lit.int .i64 x).wf = true ∧ Below w.heap.size w w'

set_option maxRecDepth 8000 in
set_option maxHeartbeats 8000000 in
theorem law_fam (a : Option Addr) (len cap : Nat) (w : World) (HD : len ≤ 4096 → Calls Try.prog 9 #[.slice a len cap] w (DrawnAt w)) :
    Calls Try.prog 3 #[.slice a len cap] w fun e w' => e = .returned (.bool true) ∧ Below w.heap.size w w' := by
  by_cases hl : len ≤ 4096
  case neg =>
    have CB := hid (fun wx => cBig_yes a len cap wx hl)
    go_enter Try.func3, Try.ntmps3
    go_wp2_with fail
    refine (CB.out _).mono ?_
    rintro e w1 ⟨rfl, rfl⟩
    go_wp2_with fail
    go_ret
    exact ⟨rfl, Below.refl _ _⟩
  have CB := hid (fun wx => cBig_no a len cap wx hl)
  have CD := hid (HD hl)
  clear HD
  go_enter Try.func3, Try.ntmps3
  go_wp2_with fail
  refine (CB.out _).mono ?_
  rintro e w1 ⟨rfl, rfl⟩
  go_wp2_with fail
  refine CD.out.mono ?_
  rintro e w2 ⟨a2, c2, ts, x, rfl, hr2, hn, hz, hwf, hb2⟩
  have hn' : ts.length ≤ 1048576 := by omega
  have HR := hid hr2
  have HB2 := hid hb2
  have CE := hid (fun (y : Int) wx (h : TkRow wx a2 ts) => cEndOfI a2 c2 ts y wx h hn' hz)
  have CK := hid (fun wx (h : TkRow wx a2 ts) => cKidsOfI a2 c2 ts x wx h hn' hz)
  have CT := hid (fun wx (h : TkRow wx a2 ts) => cTextInI a2 c2 ts x wx h hn' hz)
  have SE := hid (fun wx (h : TkRow wx a2 ts) => cEndOfS a2 c2 ts x wx h hn' hz)
  have SK := hid (fun wx (h : TkRow wx a2 ts) => cKidsOfS a2 c2 ts x wx h hn' hz)
  have ST := hid (fun wx (h : TkRow wx a2 ts) => cTextInS a2 c2 ts x wx h hn' hz)
  have hkl := kidsI_len ts x
  obtain ⟨L, hL⟩ : ∃ L, kidsI ts x = L := ⟨_, rfl⟩
  have HL := hid hL
  obtain ⟨E, hE⟩ : ∃ E, endI ts x = E := ⟨_, rfl⟩
  have HE := hid hE
  obtain ⟨X, hX⟩ : ∃ X, textI ts x = X := ⟨_, rfl⟩
  have HX := hid hX
  have CE0 := hid (fun wx (h : TkRow wx a2 ts) => by have := CE.out x wx h; rw [hE] at this; exact this)
  rw [hL] at CK SK hkl
  rw [hE] at SE
  rw [hX] at CT ST
  obtain ⟨n, hnn⟩ : ∃ n, ts.length = n := ⟨_, rfl⟩
  have HN := hid hnn
  rw [hnn] at CE CE0 CK CT SE SK ST hn hkl ⊢
  obtain ⟨m, hm⟩ : ∃ m, L.length = m := ⟨_, rfl⟩
  have HM := hid hm
  rw [hm] at CK SK hkl
  have hEE : (E == E) = true := by simp
  have hXX : (X.toList == X.toList) = true := by simp
  have CQ := hid (fun (p q : Option Addr) (cp cq : Nat) (wx : World) (h : IntRow wx p L) (h2 : IntRow wx q L) => cLikeInts p q cp cq L wx h h2 (by omega))
  rw [hm] at CQ
  clear hL hE hX hr2 hb2 hnn hm CD CB hz hn'
  go_wp2_with fail
  refine (CE0.out _ HR.out).mono ?_
  rintro e w3 ⟨rfl, hb3⟩
  have D3 := hid hb3
  clear hb3
  go_wp2_with fail
  refine (CK.out _ (HR.out.below D3.out)).mono ?_
  rintro e w4 ⟨v4, rfl, ho4, hb4⟩
  have D4 := hid (bb D3.out hb4)
  rw [← HM.out] at ho4
  obtain ⟨a4, c4, hv4, hi4⟩ := own64 ho4
  subst hv4
  have I4 := hid hi4
  rw [HM.out]
  clear ho4 hb4 hi4
  go_wp2_with fail
  refine (CT.out _ (HR.out.below D4.out)).mono ?_
  rintro e w5 ⟨rfl, hb5⟩
  have D5 := hid (bb D4.out hb5)
  have I5 := hid (I4.out.below hb5)
  clear hb5 I4
  go_wp2_with fail
  refine (SE.out _ (HR.out.below D5.out)).mono ?_
  rintro e w6 ⟨rfl, hb6⟩
  have D6 := hid (bb D5.out hb6)
  have I6 := hid (I5.out.below hb6)
  clear hb6 I5
  go_wp2_with fail
  refine (SK.out _ (HR.out.below D6.out)).mono ?_
  rintro e w7 ⟨v7, rfl, ho7, hb7⟩
  have D7 := hid (bb D6.out hb7)
  have I7 := hid (I6.out.below hb7)
  rw [← HM.out] at ho7
  obtain ⟨a7, c7, hv7, hi7⟩ := own64 ho7
  subst hv7
  have J7 := hid hi7
  rw [HM.out]
  clear ho7 hb7 hi7 I6
  go_wp2_with fail
  refine (CQ.out a4 a7 c4 c7 _ I7.out J7.out).mono ?_
  rintro e w8 ⟨rfl, hb8⟩
  have D8 := hid (bb D7.out hb8)
  have I8 := hid (I7.out.below hb8)
  clear hb8 I7 J7
  go_wp2_with fail
  refine (ST.out _ (HR.out.below D8.out)).mono ?_
  rintro e w9 ⟨rfl, hb9⟩
  have D9 := hid (bb D8.out hb9)
  have I9 := hid (I8.out.below hb9)
  clear hb9 I8 CQ SE SK ST CK CT CE0
  cases q : hasB ts x
  · have e1 : E = -1 := by rw [← HE.out]; unfold endI; rw [q]; rfl
    have e2 : m = 0 := by rw [← HM.out, ← HL.out]; unfold kidsI; rw [q]; rfl
    have e3 : X = ⟨#[]⟩ := by rw [← HX.out]; unfold textI; rw [q]; rfl
    subst e1 e2 e3
    go_wp2_with fail
    go_ret
    exact ⟨rfl, bb HB2.out D9.out⟩
  · obtain ⟨ht, k, rfl, hk⟩ := hasB_t q
    have hE1 : E = (endN ts k : Int) := by rw [← HE.out]; unfold endI; rw [q]; rfl
    have hL1 : L = kidsN ts k := by rw [← HL.out]; unfold kidsI; rw [q]; rfl
    have hX1 : X = joinT ts (kidsN ts k) := by rw [← HX.out]; unfold textI; rw [q]; rfl
    have HTR := hid ht
    have HK := hid hk
    have hle := endN_le hk
    rw [HN.out] at hle hk
    have HSZ := hid (joinT_size (tree_text ht))
    have HTX := hid (tree_text ht)
    have HF0 := hid (fam_start ht HK.out)
    have HX1 := hid hX1
    obtain ⟨F, hF⟩ : ∃ F, endN ts k = F := ⟨_, rfl⟩
    have HFF := hid hF
    rw [hF] at hE1 hle
    subst hE1
    rw [← hL1] at HX1
    have HL1 := hid hL1
    clear ht hL1 hX1 hF q hEE
    have hd0 : decide ((F : Int) < 0) = false := by simp
    have hm50 : m ≤ 1000000 := by omega
    go_wp2_with fail
    go_loopw [8, 9, 10] (fun nx tx y wr => ∃ (i e : Nat), y = .int .i64 (i : Int) ∧ i ≤ m ∧ nx = .int .i64 (e : Int) ∧ e ≤ n ∧ Hid (tx = .string (joinT ts (L.take i)) ∧ FamAt ts k i e ∧ Below w2.heap.size w2 wr ∧ Below w9.heap.size w9 wr)) (fun _ _ y _ => m - (intOf y).toNat)
    case atStart => exact ⟨0, k + 1, rfl, Nat.zero_le _, by go_num, by omega, hid ⟨rfl, HF0.out, D9.out, Below.refl _ _⟩⟩
    case round =>
      clear HF0
      obtain ⟨i, e, rfl, hi, rfl, hen, HY⟩ := hrel
      obtain ⟨htx, hfa, hbd, hb9⟩ := HY.out
      have FA := hid hfa
      have DD := hid hbd
      have IW := hid (I9.out.below hb9)
      have D99 := hid hb9
      have hsz := HSZ.out (L.take i)
      rw [List.length_take] at hsz
      clear HY hfa hbd hb9
      by_cases hlt : i < m
      · have hiL : i < L.length := by rw [HM.out]; exact hlt
        have hin : (i : Int) < (m : Int) := by omega
        have hstep := FA.out.step HTR.out HK.out (by rw [← HL1.out]; exact hiL)
        obtain ⟨s1, s2, s3, s4⟩ := hstep
        have hLi : L[i] = e := by simp only [HL1.out]; exact s1
        have hes : e < ts.length := by have := (endN_le HK.out).2; omega
        have hen' : (e : Int) < (n : Int) := by have := HN.out; omega
        obtain ⟨g, go, rfl, hg, c0⟩ := IW.out i hiL
        rw [hLi] at c0
        obtain ⟨b, o, aa, ca, rfl, hb, p0, p1, p2, p3, _⟩ := (HR.out.below DD.out) e hes
        have hpk : ts[e].kind = (k : Int) := by rw [← parI_at hes]; exact s3
        rw [hpk] at p0
        have HSN := hid (show joinT ts (L.take (i + 1)) = joinT ts (L.take i) ++ ts[e].text by rw [take_snocN hiL, joinT_snoc, hLi, textAt_at hes])
        have htz := HTX.out e
        rw [textAt_at hes] at htz
        have hend := (endN_le (ts := ts) (k := e) hes).2
        have CEe := hid (show ∀ wx, TkRow wx (some ⟨b, o, none⟩) ts → Calls Try.prog 10 #[.slice (some ⟨b, o, none⟩) n c2, .int .i64 (e : Int)] wx fun e' w' => e' = .returned (.int .i64 (endN ts e : Nat)) ∧ Below wx.heap.size wx w' from fun wx h => by
          have := CE.out (e : Int) wx h
          have hh : hasB ts (e : Int) = true := by
            unfold hasB
            rw [treeB_t HTR.out, decide_eq_true (by omega)]
            rfl
          rw [show endI ts (e : Int) = (endN ts e : Int) from by unfold endI; rw [hh]; rfl] at this
          exact this)
        have HS4 := hid s4
        have hend2 : endN ts e ≤ n := by rw [HN.out] at hend; exact hend
        have hd1 : ((e : Int) == (e : Int)) = true := by simp
        have hd2 : ((k : Int) == (k : Int)) = true := by simp
        generalize ts[e].text = T at *
        generalize joinT ts (L.take i) = S at *
        subst htx
        have hf : ¬ 9223372036854775807 < S.size + T.size := by omega
        have HEN := hid hend2
        clear s1 s2 s3 s4 hLi hpk p1 p2 hend hend2 hsz
        go_wp2_with fail
        refine (CEe.out _ (HR.out.below DD.out)).mono ?_
        rintro e' w10 ⟨rfl, hb10⟩
        have DD2 := hid (bb DD.out hb10)
        have IW2 := hid hb10
        clear hb10
        go_wp2_with fail
        go_roundw
        case rel => exact ⟨i + 1, endN ts e, by go_num, by omega, rfl, HEN.out, hid ⟨by rw [HSN.out], HS4.out, DD2.out, bb D99.out IW2.out⟩⟩
        case measure => simp [intOf]; omega
      · have hie : i = m := by omega
        subst hie
        have hfin := FA.out.fin HTR.out HK.out (by rw [← HL1.out]; exact HM.out.symm)
        rw [HFF.out] at hfin
        subst hfin
        rw [show L.take i = L from List.take_of_length_le (by rw [HM.out]; exact Nat.le_refl _), ← HX1.out] at htx
        subst htx
        have hd1 : ((e : Int) == (e : Int)) = true := by simp
        have hd3 : decide ((e : Int) ≤ (n : Int)) = true := decide_eq_true (by omega)
        clear hsz
        go_wp2_with fail
        go_ret
        exact ⟨rfl, bb HB2.out DD.out⟩

end Go.Proofs.Ytkcmagfbacmllaa
