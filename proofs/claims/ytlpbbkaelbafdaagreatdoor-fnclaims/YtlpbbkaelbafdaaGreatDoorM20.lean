/-  -/
import Derived.Test.YtlpbbkaelbafdaaGreatDoorM10
import Derived.Test.YtlpbbkaelbafdaaGreatDoorM19
import Derived.Test.YtlpbbkaelbafdaaGreatDoorM18
import Derived.Test.YtlpbbkaelbafdaaGreatDoorM5
import Derived.Test.YtlpbbkaelbafdaaGreatDoorM17
import Derived.Test.YtlpbbkaelbafdaaGreatDoorM15
import Derived.Test.YtlpbbkaelbafdaaGreatDoorM12
import Derived.Test.YtlpbbkaelbafdaaGreatDoorM16
import Derived.Test.YtlpbbkaelbafdaaGreatDoorM7
import Derived.Maps.AppendAt
set_option linter.unusedVariables false
set_option linter.unusedSimpArgs false
namespace Go.Proofs.YtlpbbkaelbafdaaGreatDoor
open Go.RowKit

def IntRow (w : World) (a : Option Addr) (l : List Nat) : Prop := ∀ j (h : j < l.length), ∃ b o, a = some ⟨b, o, none⟩ /\ b < w.heap.size /\ w.cell? ⟨b, o + j, none⟩ = some (.int .i64 (l[j] : Int))

theorem IntRow.below {w w' : World} {a : Option Addr} {l : List Nat} (h : IntRow w a l) (hb : Below w.heap.size w w') : IntRow w' a l := by
 intro j hj
 obtain ⟨b, o, ha, hlt, c⟩ := h j hj
 exact ⟨b, o, ha, Nat.lt_of_lt_of_le hlt hb.size, (hb.cell (p := ⟨b, o + j, none⟩) hlt).trans c⟩

theorem own64 {w : World} {B : Nat} {v : Value} {l : List Nat} (h : w.ownsRow B 2 1 v l.length (intC l)) : ∃ a cap, v = .slice a l.length cap /\ IntRow w a l := by
 rcases h.2 with ⟨rfl, h0⟩ | ⟨g, cap, cur, rfl, hg, hh, hn, hc, hs, ht⟩
 ·have : l = [] := List.eq_nil_of_length_eq_zero h0
  subst this
  exact ⟨none, 0, rfl, fun j hj => absurd hj (Nat.not_lt_zero _)⟩
 ·refine ⟨_, _, rfl, fun j hj => ⟨g, 0, rfl, lt_of_heap hh, ?_⟩⟩
  obtain ⟨g', cap', e, _, c⟩ := (row64 ⟨h.1, .inr ⟨g, cap, cur, rfl, hg, hh, hn, hc, hs, ht⟩⟩).2 j hj
  cases e
  rw [Nat.zero_add]
  exact c

theorem own64_rd {w : World} {B n c : Nat} {a : Option Addr} {l : List Nat} (h : w.ownsRow B 2 1 (.slice a n c) n (intC l)) (hn : l.length = n) : IntRow w a l := by
 subst hn
 obtain ⟨a', c', e, hr⟩ := own64 h
 cases e
 exact hr

theorem row64_keep {w w' : World} {B n : Nat} {v : Value} {xs : List Value} {p : Nat -> Prop} {e : TypeId} (h : w.ownsRow B e 1 v n xs) (k : KeepB p w w') (hp : ∀ b, p b -> b < B) : w'.ownsRow B e 1 v n xs := by
 refine ⟨h.1, ?_⟩
 rcases h.2 with h' | ⟨g, cap, cur, h1, h2, h3, h4⟩
 ·exact .inl h'
 ·exact .inr ⟨g, cap, cur, h1, h2, (k.block g (lt_of_heap h3) (fun x => by have := hp g x; omega)).trans h3, h4⟩

def MarksI (cur : Array Value) (n k : Nat) : Prop := ∀ j, j < n -> cur[j]? = some (.int .i64 ((k + j : Nat) : Int))

def mkI (n : Nat) : List Nat := (List.range n).map fun j => 1 + j

theorem mkI_len (n : Nat) : (mkI n).length = n := by simp [mkI]

theorem mkI_at (n j : Nat) (h : j < (mkI n).length) : (mkI n)[j] = 1 + j := by simp [mkI]

theorem MarksI.row {w : World} {g n : Nat} {cur : Array Value} {T : TypeId} (h : MarksI cur n 1) (hh : w.heap[g]? = some (.cells cur T (0, 0))) : IntRow w (some ⟨g, 0, none⟩) (mkI n) := by
 intro j hj
 refine ⟨g, 0, rfl, lt_of_heap hh, ?_⟩
 rw [Lib.cell_of_heap hh, mkI_at n j hj, Nat.zero_add]
 rw [mkI_len] at hj
 exact h j hj

theorem kidsI_len (ts : List Tk) (x : Int) : (kidsI ts x).length <= ts.length := by
 unfold kidsI
 split
 ·exact kidsTo_len ts _ _
 ·exact Nat.zero_le _

theorem Nd.Laid.hasI {ts : List Tk} {g : Nat} {G : Nat -> Nat} {cur : Array Value} {w : World} (h : Nd.Laid ts g ts.length G cur w) (hh : w.heap[g]? = some (.cells cur 42 (0, 0))) : ∀ b, (Nd.shL g G ts).Has b -> g <= b /\ b < w.heap.size := by
 rintro b (rfl | ⟨j, hj, _, rfl⟩)
 ·exact ⟨Nat.le_refl _, lt_of_heap hh⟩
 ·obtain ⟨h1, cu, h2, _⟩ := h.row j hj hj
  have h3 := lt_of_heap h2
  exact ⟨by show g <= G j; omega, by show G j < w.heap.size; omega⟩

end Go.Proofs.YtlpbbkaelbafdaaGreatDoor

namespace Go.Proofs.YtlpbbkaelbafdaaGreatDoor
open Go.RowKit

set_option maxRecDepth 8000 in
set_option maxHeartbeats 4000000 in
theorem c_spec_l14Kids (a : Option Addr) (cap : Nat) (ts : List Tk) (k : Nat) (loc : ByteArray) (w : World) (hR : TkRow w a ts) (hT : TreeP ts) (hk : k < ts.length) (hn : ts.length <= 1048576) (hz : TksSz 1048576 ts) :
  Calls Tryz.prog 94 #[.slice a ts.length cap, .int .i64 (k : Int), .string loc] w fun e w' => ∃ v, e = .returned v /\ w'.ownsRow w.heap.size 2 1 v (kidsK ts k loc).length (intC (kidsK ts k loc)) /\ Below w.heap.size w w' := by
 obtain ⟨i0, hi, hz0, hz1, hz2⟩ := info_parts info64
 have HI := hid (And.intro hi (And.intro hz0 (And.intro hz1 hz2)))
 clear hi hz0 hz1 hz2
 have CK := hid (fun wx (hb : Below w.heap.size w wx) => cKidsS a cap ts k wx (hR.below hb) hk hn)
 have CS := hid (fun (j : Nat) (hj : j < ts.length) wx (hb : Below w.heap.size w wx) => c_spec_l9Known a cap ts j loc claimS wx (hR.below hb) hT hj hn hz)
 have HL := hid (fun (q : Nat) (hq : q < (kidsN ts k).length) => kidsN_lt (List.getElem_mem hq))
 have hlk : (kidsN ts k).length <= ts.length := by
  unfold kidsN kidsTo
  exact Nat.le_trans (List.length_filter_le _ _) (by rw [List.length_range]; exact Nat.le_refl _)
 have HE := hid (show kidsK ts k loc = kidsP ts (kidsN ts k) loc (kidsN ts k).length by unfold kidsK kidsP; rw [List.take_length])
 rw [HE.out]
 have HRT := hid hR
 clear HE hR hT hz
 generalize kidsN ts k = L at *
 obtain ⟨n, hnn⟩ : ∃ n, ts.length = n := ⟨_, rfl⟩
 have HNN := hid hnn
 rw [hnn] at hn CK CS HL hlk ⊢
 clear hnn
 obtain ⟨m, hm⟩ : ∃ m, L.length = m := ⟨_, rfl⟩
 have HM := hid hm
 rw [hm] at CK hlk ⊢
 clear hm
 go_enter Tryz.func94, Tryz.ntmps94
 go_wp2_with fail
 have HBA := hid ((Below.refl w.heap.size w).alloc (Nat.le_refl _) (.cells #[] 2))
 refine (CK.out _ HBA.out).mono ?_
 rintro e w1 ⟨v6, rfl, ho6, hb1⟩
 have HB1 := hid (bb HBA.out hb1)
 have HO1 := hid (ownsRow_below (World.ownsRow_made (base := w.heap.size) (e := 2) (size := 1) w #[] 0 (Nat.le_refl w.heap.size) (by decide) rfl) hb1)
 rw [<- HM.out] at ho6
 have hlt6 := ho6.lt
 obtain ⟨a6, c6, rfl, hr6⟩ := own64 ho6
 have HR6 := hid hr6
 have HF1 := hid (show ∀ x y, (Value.slice a6 L.length c6).ownBlock = some x -> (Value.slice (some ⟨w.heap.size, 0, none⟩) 0 0).ownBlock = some y -> ¬ y = x from fun x y hx hy => by
  have h := (hlt6 x hx).1
  have hy' : w.heap.size = y := Option.some.inj hy
  rw [World.size_alloc] at h
  omega)
 clear hlt6
 rw [HM.out] at HF1 ⊢
 clear hb1 ho6 hr6 CK HBA
 go_wp2_with fail
 go_loopw [7, 9] (fun v x wr => ∃ q : Nat, x = .int .i64 (q : Int) /\ q <= m /\ Hid (wr.ownsRow w.heap.size 2 1 v (kidsP ts L loc q).length (intC (kidsP ts L loc q))) /\ Hid (IntRow wr a6 L) /\ Hid (∀ x y, (Value.slice a6 m c6).ownBlock = some x -> v.ownBlock = some y -> ¬ y = x) /\ Hid (Below w.heap.size w wr)) (fun _ x _ => m - (intOf x).toNat)
 case atStart => exact ⟨0, rfl, Nat.zero_le _, HO1.out, HR6.out, HF1.out, HB1.out⟩
 case round =>
  clear HB1 HO1 HR6 HF1
  obtain ⟨q, rfl, hq, HO, HR, HF, HB⟩ := hrel
  by_cases hlt : q < m
  ·have hql : q < L.length := by rw [HM.out]; exact hlt
   have hqm : (q : Int) < (m : Int) := by omega
   obtain ⟨b, o, rfl, hb, c1⟩ := HR.out q hql
   have hjn := HL.out q hql
   have CS1 := hid (fun wx hb => CS.out L[q] hjn wx hb)
   have HX := hid (kidsP_next (ts := ts) (loc := loc) hql)
   obtain ⟨j, hj⟩ : ∃ j, L[q] = j := ⟨_, rfl⟩
   rw [hj] at c1 CS1 HX hjn
   clear hj
   have hjs : j < ts.length := by rw [HNN.out]; exact hjn
   obtain ⟨tb, tp, taa, tca, rfl, htb, q0, q1, q2, q3, hTA⟩ := HRT.out.below HB.out j hjs
   have E := empty_is ts[j].name
   have HKB := hid (show kidB ts loc j = (!decide (ts[j].name.size = 0) && knownN ts j loc claimS) by unfold kidB; rw [nameI_at hjs])
   have hji : (j : Int) < (n : Int) := by omega
   generalize ts[j].name = nm at *
   generalize ts[j].attrs.length = ta at *
   generalize ts[j].kind = tk at *
   generalize ts[j].text = tx at *
   clear hTA hjs
   generalize kidB ts loc j = K at *
   generalize knownN ts j loc claimS = KN at *
   generalize decide (nm.size = 0) = P at *
   go_upto_region 6 with fail
   go_cut [37] from 20 to 37 (fun v wv => v = .bool K /\ Hid (Below wr.heap.size wr wv))
   case first =>
    cases P with
    | true =>
     go_wp2_with fail
     go_meet
     exact ⟨by rw [HKB.out]; rfl, Below.refl _ _⟩
    | false =>
     go_wp2_with fail
     refine (CS1.out _ HB.out).mono ?_
     rintro e1 w2 ⟨rfl, hb2⟩
     have HB2 := hid hb2
     clear hb2
     go_wp2_with fail
     go_meet
     exact ⟨by rw [HKB.out]; rfl, HB2.out⟩
   obtain ⟨rfl, HC⟩ := hcut
   obtain ⟨w2, hw2⟩ : ∃ W, W = wc := ⟨_, rfl⟩
   subst hw2
   have hb2 := HC.out
   clear HC q0 q1 q2 q3 E HKB
   have HB2 := hid (bb HB.out hb2)
   have HO2 := hid (ownsRow_below HO.out hb2)
   have HR2 := hid (HR.out.below hb2)
   have c2 := (hb2.cell (p := ⟨b, o + q, none⟩) hb).trans c1
   clear hb2 HO HB CS1 c1
   cases K with
   | false =>
    go_wp2_with fail
    go_roundw
    case rel => exact ⟨q + 1, by go_num, by omega, by rw [show kidsP ts L loc (q + 1) = kidsP ts L loc q by rw [HX.out]; exact List.append_nil _]; exact HO2.out, HR2.out, HF.out, HB2.out⟩
    case measure => simp [intOf]; omega
   | true =>
    have hlen := kidsP_len ts L loc q
    obtain ⟨hi, hz0, hz1, hz2⟩ := HI.out
    have hsz := HB2.out.size
    have HOA := hid (HO2.out.alloc (.cells #[.int .i64 (j : Int)] 2))
    have hlen2 : (intC (kidsP ts L loc q)).length <= q := by rw [intC_len]; exact hlen
    have H3 := hid (show (kidsP ts L loc q).length + 1 <= maxLen by unfold maxLen; omega)
    have H4 := hid (show ((kidsP ts L loc q).length + 1) * 8 <= 140737488355328 by omega)
    have H5 := hid (show w.heap.size <= (w2.alloc (.cells #[.int .i64 (j : Int)] 2)).heap.size by rw [World.size_alloc]; omega)
    go_wp2_with (at_builtin; refine wpList_append_own_at _ rfl _ _ 109 rfl w.heap.size 2 i0 (.int .i64 0) 1 8 Tryz.underlying109 hi hz0 hz1 hz2 rfl (by decide) _ _ _ rfl HOA.out ⟨w2.heap.size, 0, none⟩ 1 1 [.int .i64 (j : Int)] rfl rfl (one_cell64 _ _) (one_one64 _) H3.out H4.out H5.out ?_)
    intro v' w3 hown' hgrow _ hat
    have HO3 := hid (show w3.ownsRow w.heap.size 2 1 v' (kidsP ts L loc (q + 1)).length (intC (kidsP ts L loc (q + 1))) by rw [HX.out, intC_app, List.length_append]; exact hown')
    have HB3 := hid ((HB2.out.alloc hsz (.cells #[.int .i64 (j : Int)] 2)).grown hgrow (by simp; omega) (fun g hg => (HOA.out.lt g hg).1))
    have HR3 := hid (show IntRow w3 (some ⟨b, o, none⟩) L from fun i h => by
     obtain ⟨b', o', e', hlt', c'⟩ := HR2.out i h
     cases e'
     refine ⟨b, o, rfl, Nat.lt_of_lt_of_le hlt' (Nat.le_trans (by simp) hgrow.size), ?_⟩
     have c7 := ((Below.refl w2.heap.size w2).alloc (Nat.le_refl _) (.cells #[.int .i64 (j : Int)] 2)).cell (p := ⟨b, o + i, none⟩) hlt'
     rw [World.cell?_of_block (hgrow.block b (by simp; omega) (fun e => HF.out b b rfl e.symm rfl)), c7]
     exact c')
    have HF3 := hid (show ∀ x y, (Value.slice (some ⟨b, o, none⟩) m c6).ownBlock = some x -> v'.ownBlock = some y -> ¬ y = x from fun x y hx hy => by
     rcases hat with h | h
     ·exact HF.out x y hx (h.symm.trans hy)
     ·rw [h] at hy
      cases hx
      cases hy
      have h9 := (HR2.out q hql)
      obtain ⟨b', o', e', hlt', _⟩ := h9
      cases e'
      simp
      omega)
    clear hown' hgrow hat
    go_wp2_with fail
    go_roundw
    case rel => exact ⟨q + 1, by go_num, by omega, HO3.out, HR3.out, HF3.out, HB3.out⟩
    case measure => simp [intOf]; omega
  ·have hqe : q = m := by omega
   subst hqe
   go_wp2_with fail
   go_ret
   exact ⟨_, rfl, HO.out, HB.out⟩

end Go.Proofs.YtlpbbkaelbafdaaGreatDoor

namespace Go.Proofs.YtlpbbkaelbafdaaGreatDoor
open Go.RowKit

theorem field_lenS (l : List UInt8) (q : Nat) : (fieldL l q).length <= 4 := by
 unfold fieldL
 have := (wid_le q).1
 simp
 omega

theorem rd_bnd (l : List UInt8) (q : Nat) : -1 <= rdI (fieldL l q) /\ rdI (fieldL l q) < 10000 := by
 have h1 := rdI_bounds (fieldL l q)
 have h2 : (10 : Nat) ^ (fieldL l q).length <= 10 ^ 4 := Nat.pow_le_pow_right (by decide) (field_lenS l q)
 have h3 : ((10 ^ (fieldL l q).length : Nat) : Int) = (10 : Int) ^ (fieldL l q).length := by simp
 have h4 : (10 : Nat) ^ 4 = 10000 := by decide
 omega

set_option maxHeartbeats 8000000 in
set_option maxRecDepth 4000 in
theorem cOfS_20 (u : ByteArray) (w : World) (hu : u.size = 20) :
  Calls Tryz.prog 96 #[.string u] w fun e w' => e = .returned (.tuple #[.int .i64 (timeOf u.data.toList).1, .bool (timeOf u.data.toList).2]) /\ Below w.heap.size w w' := by
 have HU : Hid (u.size = 20) := hu
 have hui : (u.size : Int) = 20 := by omega
 have C0 := fun w => cDigitsS u 0 4 w (by omega) (by omega) (by omega)
 have C1 := fun w => cDigitsS u 5 2 w (by omega) (by omega) (by omega)
 have C2 := fun w => cDigitsS u 8 2 w (by omega) (by omega) (by omega)
 have C3 := fun w => cDigitsS u 11 2 w (by omega) (by omega) (by omega)
 have C4 := fun w => cDigitsS u 14 2 w (by omega) (by omega) (by omega)
 have C5 := fun w => cDigitsS u 17 2 w (by omega) (by omega) (by omega)
 obtain ⟨l, hl⟩ : ∃ l, u.data.toList = l := ⟨_, rfl⟩
 have Hl : Hid (u.data.toList = l) := hl
 rw [hl] at C0 C1 C2 C3 C4 C5 ⊢
 rw [show (l.drop 0).take 4 = fieldL l 0 from rfl] at C0
 rw [show (l.drop 5).take 2 = fieldL l 1 from rfl] at C1
 rw [show (l.drop 8).take 2 = fieldL l 2 from rfl] at C2
 rw [show (l.drop 11).take 2 = fieldL l 3 from rfl] at C3
 rw [show (l.drop 14).take 2 = fieldL l 4 from rfl] at C4
 rw [show (l.drop 17).take 2 = fieldL l 5 from rfl] at C5
 have s0 := rd_bnd l 0
 have s1 := rd_bnd l 1
 have s2 := rd_bnd l 2
 have s3 := rd_bnd l 3
 have s4 := rd_bnd l 4
 have s5 := rd_bnd l 5
 obtain ⟨b0, e0⟩ : ∃ b, rdI (fieldL l 0) = b := ⟨_, rfl⟩
 obtain ⟨b1, e1⟩ : ∃ b, rdI (fieldL l 1) = b := ⟨_, rfl⟩
 obtain ⟨b2, e2⟩ : ∃ b, rdI (fieldL l 2) = b := ⟨_, rfl⟩
 obtain ⟨b3, e3⟩ : ∃ b, rdI (fieldL l 3) = b := ⟨_, rfl⟩
 obtain ⟨b4, e4⟩ : ∃ b, rdI (fieldL l 4) = b := ⟨_, rfl⟩
 obtain ⟨b5, e5⟩ : ∃ b, rdI (fieldL l 5) = b := ⟨_, rfl⟩
 rw [e0] at C0 s0
 rw [e1] at C1 s1
 rw [e2] at C2 s2
 rw [e3] at C3 s3
 rw [e4] at C4 s4
 rw [e5] at C5 s5
 obtain ⟨T, hT⟩ : ∃ T : Int × Bool, timeOf l = T := ⟨_, rfl⟩
 have HT : Hid (timeOf l = T) := hT
 rw [hT]
 obtain ⟨T1, T2⟩ := T
 have I0 := fun w => cIn b0 2000 2099 w
 have I1 := fun w => cIn b1 1 12 w
 clear hl hT hu
 by_cases hin : (2000 <= b0 /\ b0 <= 2099) /\ (1 <= b1 /\ b1 <= 12)
 ·obtain ⟨k, hk0⟩ : ∃ k : Nat, b0 = (2000 + k : Nat) := ⟨b0.toNat - 2000, by omega⟩
  obtain ⟨m, hm0⟩ : ∃ m : Nat, b1 = m := ⟨b1.toNat, by omega⟩
  have hk : k < 100 := by omega
  have hm1 : 1 <= m := by omega
  have hm2 : m <= 12 := by omega
  rw [decide_eq_true hin.1] at I0
  rw [decide_eq_true hin.2] at I1
  have CD := fun w => cDaysS_in k m w hk hm1 hm2
  rw [<- hk0, <- hm0] at CD
  have hD1 : 28 <= dm (lp k) m /\ dm (lp k) m <= 31 + lp k := dm_pos _ _ hm1 hm2
  obtain ⟨D, hD⟩ : ∃ D : Nat, dm (lp k) m = D := ⟨_, rfl⟩
  rw [hD] at CD hD1
  have I2 := fun w => cIn b2 1 D w
  by_cases hd : 1 <= b2 /\ b2 <= (D : Int)
  ·obtain ⟨dd, hdd⟩ : ∃ dd : Nat, b2 = dd := ⟨b2.toNat, by omega⟩
   have hcand := timeOf_cand (l := l) hk (by rw [e0, hk0]; omega) (by rw [e1, hm0]) e2 e3 e4 e5 (by rw [<- Hl.out, <- t_sz]; exact HU.out)
   unfold cand at hcand
   rw [HT.out] at hcand
   rw [decide_eq_true hd] at I2
   have HCd : Hid ((T1, T2) = _) := hcand
   have HK0 : Hid (b0 = (2000 + k : Nat)) := hk0
   have HD0 : Hid (b2 = dd) := hdd
   have HM0 : Hid (b1 = m) := hm0
   have hD2 : D <= 32 := by have : lp k <= 1 := (by unfold lp; split <;> omega); omega
   have hdd1 : 1 <= dd := by omega
   have hdd2 : dd <= 32 := by omega
   have hw0 : IntKind.i64.wrap (b2 - 1) = b2 - 1 := IntWalk.i64_in _ (by omega)
   have hb2i : b2 - 1 = ((dd - 1 : Nat) : Int) := by omega
   clear hk0 hm0 hin hd hD1 hD e0 e1 e2 e3 e4 e5 HT hcand hdd s0 s1 s2
   go_enter Tryz.func96, Tryz.ntmps96
   go_wp2_with fail
   refine (C0 _).mono ?_
   rintro e w1 ⟨rfl, rfl⟩
   go_wp2_with fail
   refine (C1 _).mono ?_
   rintro e w1 ⟨rfl, rfl⟩
   go_wp2_with fail
   refine (C2 _).mono ?_
   rintro e w1 ⟨rfl, rfl⟩
   go_wp2_with fail
   refine (I0 _).mono ?_
   rintro e w1 ⟨rfl, rfl⟩
   go_wp2_with fail
   refine (I1 _).mono ?_
   rintro e w1 ⟨rfl, rfl⟩
   go_wp2_with fail
   refine (CD _).mono ?_
   rintro e w2 ⟨rfl, hb2⟩
   go_wp2_with fail
   refine (I2 _).mono ?_
   rintro e w3 ⟨rfl, rfl⟩
   have HB2 : Hid (Below w1.heap.size w1 w3) := hb2
   clear hb2 I0 I1 I2 C0 C1 C2 CD
   go_wp2_with fail
   clear hb2i hw0
   go_loop [7, 8] (fun ds y => ∃ j v : Nat, j <= k /\ ds = .int .i64 (v : Int) /\ v = dd - 1 + yb j /\ y = .int .i64 ((2000 + j : Nat) : Int)) (fun _ y => 2000 + k - (intOf y).toNat)
   case atStart => exact ⟨0, dd - 1, Nat.zero_le _, rfl, by simp [yb], rfl⟩
   case round =>
    obtain ⟨j, v, hj, rfl, hv, rfl⟩ := hrel
    have hvb : v <= 40000 := by rw [hv]; unfold yb; omega
    have HV : Hid (v = dd - 1 + yb j) := hv
    have z4 : ((((2000 + j : Nat) : Int) % 4) == 0) = (lp j == 1) := by
     unfold lp
     split
     ·simp; omega
     ·simp; omega
    have z5 : ((((2000 + j : Nat) : Int).tmod 4) == 0) = (lp j == 1) := by
     rw [Int.tmod_eq_emod_of_nonneg (by omega)]
     exact z4
    have hys := yb_succ j
    obtain ⟨q, hq⟩ : ∃ q : Nat, lp j = q := ⟨_, rfl⟩
    have hq01 : q = 0 \/ q = 1 := by rw [<- hq]; unfold lp; split <;> simp
    rw [hq] at z4 z5 hys
    have HYs : Hid (yb (j + 1) = yb j + (365 + q)) := hys
    obtain ⟨y, hy⟩ : ∃ y : Int, ((2000 + j : Nat) : Int) = y := ⟨_, rfl⟩
    have HYj : Hid (((2000 + j : Nat) : Int) = y) := hy
    have hy1 : 2000 <= y := by omega
    have hy2 : y <= 2100 := by omega
    rw [hy] at z4 z5 ⊢
    clear hy hv hq hys
    by_cases hlt : j < k
    ·have hyi : decide (y < b0) = true := by have h1 := HK0.out; have h2 := HYj.out; simp; omega
     rcases hq01 with rfl | rfl
     ·have z6 : (y % 4 == 0) = false := z4
      have z7 : (y.tmod 4 == 0) = false := z5
      clear z4 z5
      go_wp2_with fail
      go_round
      case rel =>
       have h1 := HYj.out; have h2 := HV.out; have h3 := HYs.out
       refine ⟨j + 1, v + 365, by omega, by go_num, by omega, ?_⟩
       rw [<- h1]; go_num
      case measure => have h1 := HYj.out; simp [intOf]; omega
     ·have z6 : (y % 4 == 0) = true := z4
      have z7 : (y.tmod 4 == 0) = true := z5
      clear z4 z5
      go_wp2_with fail
      go_round
      case rel =>
       have h1 := HYj.out; have h2 := HV.out; have h3 := HYs.out
       refine ⟨j + 1, v + 366, by omega, by go_num, by omega, ?_⟩
       rw [<- h1]; go_num
      case measure => have h1 := HYj.out; simp [intOf]; omega
    ·have hyi : decide (y < b0) = false := by have h1 := HK0.out; have h2 := HYj.out; simp; omega
     have hje : j = k := by omega
     subst hje
     clear z4 z5 hq01
     go_wp2_with fail
     clear hyi
     go_loopw [7, 9] (fun ds q wx => ∃ n t : Nat, 1 <= n /\ n <= m /\ ds = .int .i64 (t : Int) /\ t = dd - 1 + (yb j + mb (lp j) n) /\ q = .int .i64 (n : Int) /\ Below w1.heap.size w1 wx) (fun _ q _ => m - (intOf q).toNat)
     case atStart => exact ⟨1, v, by omega, hm1, rfl, by rw [HV.out]; rfl, rfl, HB2.out⟩
     case round =>
      obtain ⟨n, t, hn1, hn2, rfl, ht, rfl, hB⟩ := hrel
      have htb : t <= 40000 := by
       have h1 := mb_lt_13 (lp j) n hn1 (by omega)
       have h2 : yb j <= 36525 := by unfold yb; omega
       have h3 : lp j <= 1 := by unfold lp; split <;> omega
       omega
      have HTt : Hid (t = dd - 1 + (yb j + mb (lp j) n)) := ht
      have HBx : Hid (Below w1.heap.size w1 wr) := hB
      clear ht hB
      by_cases hlt2 : n < m
      ·have hni : decide ((n : Int) < b1) = true := by have h1 := HM0.out; simp; omega
       have A := cDaysS_in j n wr hk hn1 (by omega)
       obtain ⟨E, hE⟩ : ∃ E : Nat, dm (lp j) n = E := ⟨_, rfl⟩
       have hE2 : E <= 32 := by
        have := (dm_pos (lp j) n hn1 (by omega)).2
        have : lp j <= 1 := by unfold lp; split <;> omega
        omega
       have HE : Hid (dm (lp j) n = E) := hE
       rw [hE, <- HK0.out] at A
       clear hE
       go_wp2_with fail
       refine A.mono ?_
       rintro e w4 ⟨rfl, hb4⟩
       have hB4 : Below w1.heap.size w1 w4 := HBx.out.trans (hb4.mono HBx.out.size)
       clear hb4
       go_wp2_with fail
       go_roundw
       case rel =>
        have h1 := HTt.out; have h2 := HE.out
        exact ⟨n + 1, t + E, by omega, by omega, by go_num, by rw [mb_succ _ _ hn1 (by omega)]; omega, by go_num, hB4⟩
       case measure => simp [intOf]; omega
      ·have hni : decide ((n : Int) < b1) = false := by have h1 := HM0.out; simp; omega
       have hne : n = m := by omega
       subst hne
       have hcd := HCd.out
       obtain ⟨c, hc⟩ : ∃ c : Int, (t : Int) * 86400 + b3 * 3600 + b4 * 60 + b5 = c := ⟨_, rfl⟩
       have hce : ((yb j + mb (lp j) n : Nat) + b2 - 1) * 86400 + b3 * 3600 + b4 * 60 + b5 = c := by
        have h1 := HTt.out; have h2 := HD0.out
        rw [<- hc]
        omega
       rw [hce] at hcd
       have HCd2 : Hid ((T1, T2) = if textOf c = l then (c, true) else (0, false)) := hcd
       have r3 : IntKind.i64.wrap ((t : Int) * 86400) = (t : Int) * 86400 := IntWalk.i64_in _ (by omega)
       have r4 : IntKind.i64.wrap (b3 * 3600) = b3 * 3600 := IntWalk.i64_in _ (by omega)
       have r5 : IntKind.i64.wrap ((t : Int) * 86400 + b3 * 3600) = (t : Int) * 86400 + b3 * 3600 := IntWalk.i64_in _ (by omega)
       have r6 : IntKind.i64.wrap (b4 * 60) = b4 * 60 := IntWalk.i64_in _ (by omega)
       have r7 : IntKind.i64.wrap ((t : Int) * 86400 + b3 * 3600 + b4 * 60) = (t : Int) * 86400 + b3 * 3600 + b4 * 60 := IntWalk.i64_in _ (by omega)
       have r8 : IntKind.i64.wrap ((t : Int) * 86400 + b3 * 3600 + b4 * 60 + b5) = (t : Int) * 86400 + b3 * 3600 + b4 * 60 + b5 := IntWalk.i64_in _ (by omega)
       have HC : Hid ((t : Int) * 86400 + b3 * 3600 + b4 * 60 + b5 = c) := hc
       have CTm := fun w => cTimeS c w
       have CTx := fun w => t_cTextS c w
       clear hcd hce hc HCd
       have hlen : l.length = 20 := by rw [<- Hl.out, <- t_sz]; exact HU.out
       have HLen : Hid (l.length = 20) := hlen
       clear hlen
       by_cases hrg : 0 <= c /\ c <= 3155759999
       ·rw [decide_eq_true hrg] at CTm
        rw [<- HC.out] at CTm
        by_cases hcc : textOf c = l
        ·have hcd := HCd2.out
         rw [if_pos hcc, <- HC.out] at hcd
         rw [hcc, <- Hl.out, <- HC.out] at CTx
         cases hcd
         clear hrg
         go_wp2_with fail
         refine (C3 _).mono ?_
         rintro e w4 ⟨rfl, rfl⟩
         go_wp2_with fail
         refine (C4 _).mono ?_
         rintro e w4 ⟨rfl, rfl⟩
         go_wp2_with fail
         refine (C5 _).mono ?_
         rintro e w4 ⟨rfl, rfl⟩
         go_wp2_with fail
         refine (CTm _).mono ?_
         rintro e w4 ⟨rfl, rfl⟩
         go_wp2_with fail
         refine (CTx _).mono ?_
         rintro e w5 ⟨rfl, hb5⟩
         go_wp2_with fail
         go_ret2
         exact ⟨rfl, HBx.out.trans (hb5.mono HBx.out.size)⟩
        ·have hcd := HCd2.out
         rw [if_neg hcc] at hcd
         obtain ⟨X, hX⟩ : ∃ X : ByteArray, (⟨(textOf c).toArray⟩ : ByteArray) = X := ⟨_, rfl⟩
         have hne : (X.toList == u.toList) = false := by
          rw [ByteArray.toList_eq, ByteArray.toList_eq, <- hX, Hl.out]
          rw [beq_eq_false_iff_ne]
          exact hcc
         rw [hX, <- HC.out] at CTx
         cases hcd
         clear hX
         clear hrg
         go_wp2_with fail
         refine (C3 _).mono ?_
         rintro e w4 ⟨rfl, rfl⟩
         go_wp2_with fail
         refine (C4 _).mono ?_
         rintro e w4 ⟨rfl, rfl⟩
         go_wp2_with fail
         refine (C5 _).mono ?_
         rintro e w4 ⟨rfl, rfl⟩
         go_wp2_with fail
         refine (CTm _).mono ?_
         rintro e w4 ⟨rfl, rfl⟩
         go_wp2_with fail
         refine (CTx _).mono ?_
         rintro e w5 ⟨rfl, hb5⟩
         go_wp2_with fail
         go_ret2
         exact ⟨rfl, HBx.out.trans (hb5.mono HBx.out.size)⟩
       ·rw [decide_eq_false hrg] at CTm
        have hcd := HCd2.out
        rw [if_neg (fun h => by rw [textOf_out hrg] at h; have := HLen.out; rw [<- h] at this; simp at this)] at hcd
        rw [<- HC.out] at CTm
        cases hcd
        clear hrg
        go_wp2_with fail
        refine (C3 _).mono ?_
        rintro e w4 ⟨rfl, rfl⟩
        go_wp2_with fail
        refine (C4 _).mono ?_
        rintro e w4 ⟨rfl, rfl⟩
        go_wp2_with fail
        refine (C5 _).mono ?_
        rintro e w4 ⟨rfl, rfl⟩
        go_wp2_with fail
        refine (CTm _).mono ?_
        rintro e w4 ⟨rfl, rfl⟩
        go_wp2_with fail
        go_ret2
        exact ⟨rfl, HBx.out⟩
  ·rw [decide_eq_false hd] at I2
   have hbad := timeOf_bad (l := l) (fun h => by
    obtain ⟨⟨k', m', _, _, _, h0, h1, h2, h3⟩, _⟩ := h
    have : k' = k := by omega
    subst this
    have : m' = m := by omega
    subst this
    omega)
   rw [HT.out] at hbad
   cases hbad
   clear hk0 hm0 hin hd hD1 hD e0 e1 e2 e3 e4 e5 HT C3 C4 C5 s0 s1 s2 s3 s4 s5
   go_enter Tryz.func96, Tryz.ntmps96
   go_wp2_with fail
   refine (C0 _).mono ?_
   rintro e w1 ⟨rfl, rfl⟩
   go_wp2_with fail
   refine (C1 _).mono ?_
   rintro e w1 ⟨rfl, rfl⟩
   go_wp2_with fail
   refine (C2 _).mono ?_
   rintro e w1 ⟨rfl, rfl⟩
   go_wp2_with fail
   refine (I0 _).mono ?_
   rintro e w1 ⟨rfl, rfl⟩
   go_wp2_with fail
   refine (I1 _).mono ?_
   rintro e w1 ⟨rfl, rfl⟩
   go_wp2_with fail
   refine (CD _).mono ?_
   rintro e w2 ⟨rfl, hb2⟩
   go_wp2_with fail
   refine (I2 _).mono ?_
   rintro e w3 ⟨rfl, rfl⟩
   go_wp2_with fail
   go_ret2
   exact ⟨rfl, hb2⟩
 ·have hbad := timeOf_bad (l := l) (fun h => by
   obtain ⟨⟨k', m', _, _, _, h0, h1, h2, h3⟩, _⟩ := h
   omega)
  rw [HT.out] at hbad
  cases hbad
  by_cases hy : 2000 <= b0 /\ b0 <= 2099
  ·rw [decide_eq_true hy] at I0
   rw [decide_eq_false (fun x => hin ⟨hy, x⟩)] at I1
   clear hin hy e0 e1 e2 e3 e4 e5 HT C3 C4 C5 s0 s1 s2 s3 s4 s5
   go_enter Tryz.func96, Tryz.ntmps96
   go_wp2_with fail
   refine (C0 _).mono ?_
   rintro e w1 ⟨rfl, rfl⟩
   go_wp2_with fail
   refine (C1 _).mono ?_
   rintro e w1 ⟨rfl, rfl⟩
   go_wp2_with fail
   refine (C2 _).mono ?_
   rintro e w1 ⟨rfl, rfl⟩
   go_wp2_with fail
   refine (I0 _).mono ?_
   rintro e w1 ⟨rfl, rfl⟩
   go_wp2_with fail
   refine (I1 _).mono ?_
   rintro e w1 ⟨rfl, rfl⟩
   go_wp2_with fail
   go_ret2
   exact ⟨rfl, Below.refl _ _⟩
  ·rw [decide_eq_false hy] at I0
   clear hin hy e0 e1 e2 e3 e4 e5 HT C3 C4 C5 s0 s1 s2 s3 s4 s5
   go_enter Tryz.func96, Tryz.ntmps96
   go_wp2_with fail
   refine (C0 _).mono ?_
   rintro e w1 ⟨rfl, rfl⟩
   go_wp2_with fail
   refine (C1 _).mono ?_
   rintro e w1 ⟨rfl, rfl⟩
   go_wp2_with fail
   refine (C2 _).mono ?_
   rintro e w1 ⟨rfl, rfl⟩
   go_wp2_with fail
   refine (I0 _).mono ?_
   rintro e w1 ⟨rfl, rfl⟩
   go_wp2_with fail
   go_ret2
   exact ⟨rfl, Below.refl _ _⟩

theorem cOfS (u : ByteArray) (w : World) :
  Calls Tryz.prog 96 #[.string u] w fun e w' => e = .returned (.tuple #[.int .i64 (timeOf u.data.toList).1, .bool (timeOf u.data.toList).2]) /\ Below w.heap.size w w' := by
 by_cases h : u.size = 20
 ·exact cOfS_20 u w h
 ·rw [timeOf_len (by rw [<- t_sz]; exact h)]
  have hul : ¬ (u.size : Int) = 20 := by omega
  clear h
  go_enter Tryz.func96, Tryz.ntmps96
  go_wp2_with fail
  go_ret2
  exact ⟨rfl, Below.refl _ _⟩

end Go.Proofs.YtlpbbkaelbafdaaGreatDoor

namespace Go.Proofs.YtlpbbkaelbafdaaGreatDoor
open Go.RowKit

theorem atN_at {ts : List Tk} {k : Nat} (h : k < ts.length) : atN ts k = ts[k].attrs := by
 unfold atN
 rw [List.getElem?_eq_getElem h]

theorem cValAtS {w : World} {a : Option Addr} {ts : List Tk} (hR : TkRow w a ts) (hz : TksSz 1048576 ts) {k : Nat} (hk : k < ts.length) (name : ByteArray) (hs : name.size <= 1048576) :
  ∃ b o aa na ca, a = some ⟨b, o, none⟩ /\ w.cell? ⟨b, o + k * 4 + 2, none⟩ = some (.slice aa na ca) /\ ∀ wx, Below w.heap.size w wx -> Calls Tryz.prog 60 #[.slice aa na ca, .string name] wx fun e w' => e = .returned (.tuple #[.string (valN ts k name), .bool (valF (atN ts k) name).isSome]) /\ w' = wx := by
 obtain ⟨b, o, aa, ca, e, c2, hA⟩ := ats_row hR hk
 have h3 := hz _ (List.getElem_mem hk)
 unfold valN
 rw [atN_at hk]
 exact ⟨b, o, aa, _, ca, e, c2, fun wx hb => cValueInS aa ca ts[k].attrs name wx (hA.below hb) h3.2.2.1 h3.2.1 hs⟩

def zCells : Array Value := #[.string ⟨#[]⟩, .string ⟨#[]⟩, .string ⟨#[]⟩, .int .i64 0, .int .i64 0, .string ⟨#[]⟩, .string ⟨#[]⟩, .slice none 0 0]

def nmCells : Array Value := #[.string (localN 0), .string (localN 1), .string (localN 2), .string (localN 3), .string (localN 4)]

noncomputable def txtsN (ts : List Tk) (k : Nat) (q : Nat) : List ByteArray := (List.range q).map fun i => fstT ts (kidsK ts k (localN i))

theorem txtsN_next (ts : List Tk) (k q : Nat) : txtsN ts k (q + 1) = txtsN ts k q ++ [fstT ts (kidsK ts k (localN q))] := by
 unfold txtsN
 rw [List.range_succ, List.map_append]
 rfl

theorem txtsN_len (ts : List Tk) (k q : Nat) : (txtsN ts k q).length = q := by
 unfold txtsN
 rw [List.length_map, List.length_range]

def DecQ (ts : List Tk) (k q : Nat) : Prop :=
 (0 < q -> (kidsK ts k (localN 0)).length = 1) /\ (1 < q -> (kidsK ts k (localN 1)).length = 1) /\ (2 < q -> (kidsK ts k (localN 2)).length = 1 /\ (timN ts (kidsK ts k (localN 2)) fromS).2 = true /\ (timN ts (kidsK ts k (localN 2)) toS).2 = true) /\ (3 < q -> (kidsK ts k (localN 3)).length = 1) /\ (4 < q -> (kidsK ts k (localN 4)).length <= 1 /\ ((kidsK ts k (localN 4)).length = 1 -> ¬ (fstT ts (kidsK ts k (localN 4))).size = 0))

theorem decQ_zero (ts : List Tk) (k : Nat) : DecQ ts k 0 := ⟨fun h => absurd h (by omega), fun h => absurd h (by omega), fun h => absurd h (by omega), fun h => absurd h (by omega), fun h => absurd h (by omega)⟩

theorem decQ_next {ts : List Tk} {k q : Nat} (hq : q < 5) (h : DecQ ts k q) (h1 : (kidsK ts k (localN q)).length <= 1) (h0 : q < 4 -> (kidsK ts k (localN q)).length = 1) (h2 : q = 2 -> (timN ts (kidsK ts k (localN 2)) fromS).2 = true /\ (timN ts (kidsK ts k (localN 2)) toS).2 = true) (h4 : q = 4 -> (kidsK ts k (localN 4)).length = 1 -> ¬ (fstT ts (kidsK ts k (localN 4))).size = 0) : DecQ ts k (q + 1) := by
 obtain ⟨a0, a1, a2, a3, a4⟩ := h
 refine ⟨fun h => ?_, fun h => ?_, fun h => ?_, fun h => ?_, fun h => ?_⟩
 ·rcases Nat.eq_zero_or_pos q with rfl | h'
  ·exact h0 (by omega)
  ·exact a0 h'
 ·rcases Nat.lt_or_ge 1 q with h' | h'
  ·exact a1 h'
  ·obtain rfl : q = 1 := by omega
   exact h0 (by omega)
 ·rcases Nat.lt_or_ge 2 q with h' | h'
  ·exact a2 h'
  ·obtain rfl : q = 2 := by omega
   exact ⟨h0 (by omega), h2 rfl⟩
 ·rcases Nat.lt_or_ge 3 q with h' | h'
  ·exact a3 h'
  ·obtain rfl : q = 3 := by omega
   exact h0 (by omega)
 ·obtain rfl : q = 4 := by omega
  exact ⟨h1, h4 rfl⟩

theorem decQ_bad {ts : List Tk} {k q : Nat} (hq : q < 5) (h : 1 < (kidsK ts k (localN q)).length \/ (q < 4 /\ (kidsK ts k (localN q)).length = 0) \/ (q = 4 /\ (kidsK ts k (localN 4)).length = 1 /\ (fstT ts (kidsK ts k (localN 4))).size = 0) \/ (q = 2 /\ ((timN ts (kidsK ts k (localN 2)) fromS).2 = false \/ (timN ts (kidsK ts k (localN 2)) toS).2 = false))) : ¬ DecP ts k := by
 rintro ⟨a0, a1, a2, a3, a4, a5, a6, a7, _⟩
 rcases h with h | ⟨h, h'⟩ | ⟨rfl, h, h'⟩ | ⟨rfl, h⟩
 ·match q, hq with
  | 0, _ => omega
  | 1, _ => omega
  | 2, _ => omega
  | 3, _ => omega
  | 4, _ => omega
 ·match q, h with
  | 0, _ => omega
  | 1, _ => omega
  | 2, _ => omega
  | 3, _ => omega
 ·exact a5 h h'
 ·rcases h with h | h
  ·rw [a6] at h; cases h
  ·rw [a7] at h; cases h

end Go.Proofs.YtlpbbkaelbafdaaGreatDoor
