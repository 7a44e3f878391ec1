/-  -/
import Derived.Test.YtlpbbkaelbafdaaGreatDoorRows
import Derived.Test.YtlpbbkaelbafdaaGreatDoorM14
import Derived.Test.YtlpbbkaelbafdaaGreatDoorM23
import Derived.WalkKit
import Derived.OwnWalk
import Derived.Lib.Builder
import Derived.Lib.OthersKept
import Derived.Lib.AppendStr
import Derived.Laws.Externs
set_option linter.unusedVariables false
set_option linter.unusedSimpArgs false
namespace Go.Proofs.YtlpbbkaelbafdaaGreatDoor
open Go.RowKit

theorem row_kind {w : World} {B : Nat} {e : TypeId} {v : Value} {n : Nat} {xs : List Value} (h : w.ownsRow B e 1 v n xs) : ∀ g, v.ownBlock = some g -> ∃ c fz, w.heap[g]? = some (.cells c e fz) := by
 intro g hg
 rcases h.2 with ⟨rfl, _⟩ | ⟨g', cap, cur, rfl, _, hgg, _⟩
 ·simp [Value.ownBlock] at hg
 ·simp [Value.ownBlock] at hg
  subst hg
  exact ⟨cur, _, hgg⟩

set_option maxRecDepth 100000 in
theorem cc_used (b : Nat) (w : World) (h0 : w.cell? ⟨b, 0, none⟩ = some (.pointer (some ⟨b, 0, none⟩))) :
  Calls Tryz.prog 160 #[.pointer (some ⟨b, 0, none⟩)] w fun e w' => e = .returned (.tuple #[]) /\ w' = w := by
 obtain ⟨j, hj, _⟩ := Option.map_eq_some_iff.1 Tryz.Builder_Extra_169.sizeBuilder
 go_enter Tryz.func160, Tryz.ntmps160
 go_wp2
 rw [Lib.run_neq_ptr_same w _ Tryz.underlying141 hj]
 go_wp2
 go_end0
 exact ⟨rfl, rfl⟩

set_option maxHeartbeats 1000000 in
set_option maxRecDepth 100000 in
theorem cc_fresh (b : Nat) (w : World) (h0 : w.cell? ⟨b, 0, none⟩ = some (.pointer none)) (hsh : w.shape? b = some (143, 2)) (hfz : w.frozen? ⟨b, 0, none⟩ = false) :
  Calls Tryz.prog 160 #[.pointer (some ⟨b, 0, none⟩)] w fun e w' => e = .returned (.tuple #[]) /\ w' = w.setCell ⟨b, 0, none⟩ (.pointer (some ⟨b, 0, none⟩)) := by
 obtain ⟨j, hj, hjs⟩ := Option.map_eq_some_iff.1 Tryz.Builder_Extra_169.sizeBuilder
 go_enter Tryz.func160, Tryz.ntmps160
 go_wp2
 rw [Lib.run_to_unsafe w ⟨b, 0, none⟩ Tryz.underlying141 Tryz.underlying170 hj (by rw [hjs]; decide) hsh (Nat.zero_lt_succ 1)]
 simp only [Result.andThen]
 rw [Oper.upon_value]
 go_wp2
 rw [run_callFunc_extern Tryz.func171 (by kernel_rfl) (by kernel_rfl) (by kernel_rfl) (e := Extern.AbiNoEscape.same) (by kernel_rfl)]
 rw [Lib.run_noEscape]
 simp only [Result.andThen]
 rw [Oper.upon_value]
 go_wp2
 rw [Lib.run_from_unsafe w ⟨b, 0, none⟩ Tryz.underlying170 Tryz.underlying141 hj hsh Tryz.Builder_Extra_169.liesBuilder]
 simp only [Result.andThen]
 rw [Oper.upon_value]
 go_wp2
 go_end0
 exact ⟨rfl, rfl⟩

theorem cc_any (B b : Nat) (bs : List Value) (w : World) (h : Lib.IsBuilder 143 5 B b bs w) :
  Calls Tryz.prog 160 #[.pointer (some ⟨b, 0, none⟩)] w fun e w' => e = .returned (.tuple #[]) /\ (Lib.BuilderAt 143 5 B b (.pointer (some ⟨b, 0, none⟩)) bs w' /\ Below B w w' /\ Lib.OthersKept 5 (some b) w w') := by
 rcases h with h | h
 ·refine (cc_fresh b w h.cell0 h.shape h.frozen0).mono ?_
  rintro e w' ⟨rfl, rfl⟩
  exact ⟨rfl, h.used _, (Below.refl B w).setCell (p := ⟨b, 0, none⟩) h.1 _, (Lib.OthersKept.refl _ _ w).setCell ⟨b, 0, none⟩ rfl _⟩
 ·refine (cc_used b w h.cell0).mono ?_
  rintro e w' ⟨rfl, rfl⟩
  exact ⟨rfl, h, Below.refl B _, Lib.OthersKept.refl _ _ _⟩

set_option maxHeartbeats 2000000 in
set_option maxRecDepth 100000 in
theorem writeString (B b : Nat) (bs : List Value) (s : ByteArray) (w : World) (h : Lib.IsBuilder 143 5 B b bs w) (hlen : bs.length + s.size <= 140737488355328) (hBw : B <= w.heap.size) :
  Calls Tryz.prog 132 #[.pointer (some ⟨b, 0, none⟩), .string s] w fun e w' => e = .returned (.tuple #[.int .i64 s.size, .nilIface]) /\ (Lib.IsBuilder 143 5 B b (bs ++ Lib.strCells s) w' /\ Below B w w' /\ Lib.OthersKept 5 (some b) w w') := by
 obtain ⟨i0, hi, hz0, hz1, hz2⟩ := info_parts Tryz.Builder_Extra_169.infoByte
 go_enter Tryz.func132, Tryz.ntmps132
 go_wp2_with (go_at_call 160; refine (cc_any B b bs _ h).mono ?_)
 rintro e w1 ⟨rfl, h1, hb1, hk1⟩
 obtain ⟨hB, v, hbk, hown, hne⟩ := h1
 have c0 : w1.cell? ⟨b, 0, none⟩ = some (.pointer (some ⟨b, 0, none⟩)) := by rw [Lib.cell_of_heap hbk]; rfl
 have c1 : w1.cell? ⟨b, 1, none⟩ = some v := by rw [Lib.cell_of_heap hbk]; rfl
 go_wp2_with (at_builtin; refine Lib.wpList_append_own_string _ rfl _ _ 22 9 rfl B 5 i0 Tryz.underlying22 Tryz.underlying9 hi hz0 hz1 hz2 _ _ _ rfl hown s rfl ?c3 ?c4 ?c5 ?_)
 case c3 => unfold maxLen; omega
 case c4 => omega
 case c5 => have := hb1.size; omega
 intro v' w2 hown' hgrow _
 have hlt : b < w1.heap.size := by
  rcases Nat.lt_or_ge b w1.heap.size with h' | h'
  ·exact h'
  ·simp [Array.getElem?_eq_none h'] at hbk
 have hb2 : w2.heap[b]? = some (.cells #[.pointer (some ⟨b, 0, none⟩), v] 143 (0, 0)) := by
  rw [hgrow.block b hlt (fun e => hne e.symm)]
  exact hbk
 have d0 : w2.cell? ⟨b, 0, none⟩ = some (.pointer (some ⟨b, 0, none⟩)) := by rw [Lib.cell_of_heap hb2]; rfl
 have d1 : w2.cell? ⟨b, 1, none⟩ = some v := by rw [Lib.cell_of_heap hb2]; rfl
 have f1 : w2.frozen? ⟨b, 1, none⟩ = false := Lib.frozen_of_heap hb2 1
 obtain ⟨ao, n', cap, rfl⟩ : ∃ ao n' cap, v' = .slice ao n' cap := by
  rcases hown'.2 with ⟨hv, _⟩ | ⟨g, cap, cur, hv, _⟩
  ·exact ⟨_, _, _, hv⟩
  ·exact ⟨_, _, _, hv⟩
 go_wp2
 go_ret2
 refine ⟨rfl, ?_, ?_, (hk1.grown hgrow (row_kind hown)).setCell ⟨b, 1, none⟩ rfl _⟩
 ·exact Or.inr (Lib.BuilderAt.put (T := 143) (e := 5) hB hb2 (bs' := bs ++ Lib.strCells s) (by simpa [Lib.strCells_length] using hown') (by decide))
 ·exact (hb1.grown hgrow (by have := hb1.size; omega) (fun k hk => (hown.lt k hk).1)).setCell (p := ⟨b, 1, none⟩) hB _

end Go.Proofs.YtlpbbkaelbafdaaGreatDoor

namespace Go.Proofs.YtlpbbkaelbafdaaGreatDoor
open Go.RowKit

end Go.Proofs.YtlpbbkaelbafdaaGreatDoor

namespace Go.Proofs.YtlpbbkaelbafdaaGreatDoor
open Go.RowKit

theorem kid_ahead {ts : List Tk} (h : TreeP ts) {i k : Nat} (hi : i < ts.length) (hp : parI ts i = (k : Int)) : k < i := by
 rcases Nat.eq_zero_or_pos i with h0 | h0
 ·subst h0
  rw [h.2.2.1] at hp
  omega
 ·rcases (h.2.2.2.2 i hi).2.1 with h' | ⟨p, hm, e, _⟩
  ·omega
  ·obtain ⟨j, rfl⟩ : ∃ j, i = j + 1 := ⟨i - 1, by omega⟩
   have := (linked_all j (fun m hm => (h.2.2.2.2 m (by omega)).2.1)).2 p hm
   omega

theorem kidsTo_step {ts : List Tk} {k e : Nat} (h : parI ts e = (k : Int) -> k < e) : kidsTo ts k (e + 1) = kidsTo ts k e ++ (if parI ts e = (k : Int) then [e] else []) := by
 unfold kidsTo
 rw [List.range_succ, List.filter_append]
 congr 1
 by_cases q : parI ts e = (k : Int)
 ·simp [h q, q]
 ·simp [q]

set_option maxRecDepth 8000 in
set_option maxHeartbeats 4000000 in
theorem cKidsOfI (a : Option Addr) (cap : Nat) (ts : List Tk) (x : Int) (w : World) (hR : TkRow w a ts) (hn : ts.length <= 1048576) (hz : TksSz 1048576 ts) :
  Calls Tryz.prog 91 #[.slice a ts.length cap, .int .i64 x] w fun e w' => ∃ v, e = .returned v /\ w'.ownsRow w.heap.size 2 1 v (kidsI ts x).length (intC (kidsI ts x)) /\ Below w.heap.size w w' := by
 have C := hid (cThere a cap ts x w hR hn hz)
 have HR := hid hR
 have HZ := hid hz
 cases q : hasB ts x
 ·have e1 : kidsI ts x = [] := by unfold kidsI; rw [q]; rfl
  rw [e1]
  rw [q] at C
  clear hz hR e1
  generalize ts.length = n at *
  go_enter Tryz.func91, Tryz.ntmps91
  go_wp2_with fail
  refine C.out.mono ?_
  rintro e w1 ⟨rfl, hb1⟩
  have HB1 := hid hb1
  clear hb1
  go_wp2_with fail
  go_ret
  exact ⟨_, rfl, World.ownsRow_nil _ _ _ _, HB1.out⟩
 obtain ⟨hT, k, rfl, hk⟩ := hasB_t q
 have e1 : kidsI ts (k : Int) = kidsN ts k := by unfold kidsI; rw [q]; rfl
 obtain ⟨i0, hi, hz0, hz1, hz2⟩ := info_parts info64
 have HI := hid (And.intro hi (And.intro hz0 (And.intro hz1 hz2)))
 have HAH := hid (fun i (h : i < ts.length) => kid_ahead hT h (k := k))
 rw [e1]
 rw [q] at C
 clear hz hR e1 q hT hi hz0 hz1 hz2
 obtain ⟨V, hV⟩ : ∃ V, kidsN ts k = V := ⟨_, rfl⟩
 have HV := hid hV
 rw [hV]
 clear hV
 obtain ⟨n, hnn⟩ : ∃ n, ts.length = n := ⟨_, rfl⟩
 have HN := hid hnn
 rw [hnn] at hn hk C ⊢
 clear hnn
 go_enter Tryz.func91, Tryz.ntmps91
 go_wp2_with fail
 refine C.out.mono ?_
 rintro e w1 ⟨rfl, hb1⟩
 have HB1 := hid hb1
 clear hb1 C
 go_wp2_with fail
 go_loopw [5, 14] (fun v x wr => ∃ e : Nat, x = .int .i64 (e : Int) /\ e <= n /\ Hid (wr.ownsRow w.heap.size 2 1 v (kidsTo ts k e).length (intC (kidsTo ts k e))) /\ Hid (Below w.heap.size w wr)) (fun _ x _ => n - (intOf x).toNat)
 case atStart => exact ⟨0, rfl, Nat.zero_le _, World.ownsRow_nil _ _ _ _, HB1.out⟩
 case round =>
  clear HB1
  obtain ⟨e, rfl, h2, HO, HB⟩ := hrel
  by_cases hlt : e < n
  case neg =>
   have hee : e = n := by omega
   subst hee
   have HW := hid (show kidsTo ts k e = V by rw [<- HV.out]; unfold kidsN; rw [HN.out])
   have HO2 := HO.out
   rw [HW.out] at HO2
   have HO3 := hid HO2
   clear HO2 HO
   go_wp2_with fail
   go_ret
   exact ⟨_, rfl, HO3.out, HB.out⟩
  have hes : e < ts.length := by rw [HN.out]; exact hlt
  have hin : (e : Int) < (n : Int) := by omega
  have HX := hid (kidsTo_step (ts := ts) (k := k) (HAH.out e hes))
  have HPI := hid (parI_at hes)
  obtain ⟨b, o, aa, ca, rfl, hb, c0, c1, c2, c3, cr⟩ := HR.out.below HB.out e hes
  clear cr
  rw [HPI.out] at HX
  have HOB := hid (HO.out.alloc (.cells #[.int .i64 ts[e].kind, .string ts[e].name, .slice aa ts[e].attrs.length ca, .string ts[e].text] 42))
  have HBB := hid (HB.out.alloc HB.out.size (.cells #[.int .i64 ts[e].kind, .string ts[e].name, .slice aa ts[e].attrs.length ca, .string ts[e].text] 42))
  have hsz := HB.out.size
  have hlen := kidsTo_len ts k e
  by_cases hp : ts[e].kind = (k : Int)
  ·rw [if_pos hp] at HX
   have hd : (ts[e].kind == (k : Int)) = true := by simpa using hp
   clear HPI hp
   generalize ts[e].kind = P at *
   generalize ts[e].name = nm at *
   generalize ts[e].attrs.length = al at *
   generalize ts[e].text = tx at *
   obtain ⟨hi, hz0, hz1, hz2⟩ := HI.out
   have HOA := hid (HOB.out.alloc (.cells #[.int .i64 (e : Int)] 2))
   have hlen2 : (intC (kidsTo ts k e)).length <= e := by rw [intC_len]; exact hlen
   have HL2 := hid hlen2
   obtain ⟨a5, c5, hv5⟩ := own_len HO.out
   clear hlen2
   subst hv5
   obtain ⟨kl, hkl⟩ : ∃ kl, (kidsTo ts k e).length = kl := ⟨_, rfl⟩
   rw [hkl] at hlen HOA HO HOB ⊢
   have HKL := hid hkl
   clear hkl
   go_wp2_with (at_builtin; refine wpList_append_own _ rfl _ _ 109 rfl w.heap.size 2 i0 (.int .i64 0) 1 8 Tryz.underlying109 hi hz0 hz1 hz2 rfl (by decide) _ _ _ rfl HOA.out ⟨wr.heap.size + 1, 0, none⟩ 1 1 [.int .i64 (e : Int)] rfl rfl ?c1 ?c2 ?c3 ?c4 ?c5 ?_)
   case c1 =>
    have := one_cell64 (wr.alloc (.cells #[.int .i64 P, .string nm, .slice aa al ca, .string tx] 42)) (.int .i64 (e : Int))
    rw [show (wr.alloc (.cells #[.int .i64 P, .string nm, .slice aa al ca, .string tx] 42)).heap.size = wr.heap.size + 1 by simp] at this
    exact this
   case c2 => exact one_one64 _
   case c3 => unfold maxLen; omega
   case c4 => omega
   case c5 => simp; omega
   intro v' w2 hown' hgrow _
   have HO2 := hid (show w2.ownsRow w.heap.size 2 1 v' (kidsTo ts k (e + 1)).length (intC (kidsTo ts k (e + 1))) by rw [HX.out, intC_app, List.length_append, HKL.out]; exact hown')
   have HB2 := hid ((HBB.out.alloc (by simp; omega) (.cells #[.int .i64 (e : Int)] 2)).grown hgrow (by simp; omega) (fun g hg => (HOA.out.lt g hg).1))
   clear hown' hgrow
   go_wp2_with fail
   go_roundw
   case rel => exact ⟨e + 1, by go_num, by omega, HO2.out, HB2.out⟩
   case measure => simp [intOf]; omega
  ·rw [if_neg hp, List.append_nil] at HX
   have hd : (ts[e].kind == (k : Int)) = false := by simpa using hp
   clear hp HPI
   generalize ts[e].kind = P at *
   generalize ts[e].name = nm at *
   generalize ts[e].attrs.length = al at *
   generalize ts[e].text = tx at *
   go_wp2_with fail
   go_roundw
   case rel => exact ⟨e + 1, by go_num, by omega, by rw [HX.out]; exact HOB.out, HBB.out⟩
   case measure => simp [intOf]; omega

end Go.Proofs.YtlpbbkaelbafdaaGreatDoor

namespace Go.Proofs.YtlpbbkaelbafdaaGreatDoor
open Go.RowKit

theorem strC_app (a b : ByteArray) : Lib.strCells a ++ Lib.strCells b = Lib.strCells (a ++ b) := by simp [Lib.strCells]

theorem strC_len (a : ByteArray) : (Lib.strCells a).length = a.size := by
 rw [Lib.strCells_eq]
 simp [Lib.byteCells]

theorem strC_eta (s : ByteArray) : (⟨s.data.toList.toArray⟩ : ByteArray) = s := by
 apply ByteArray.ext
 simp

theorem textI_join (ts : List Tk) (x : Int) : textI ts x = joinT ts (kidsI ts x) := by
 unfold textI kidsI
 split <;> rfl

theorem own_others {w w' : World} {B : Nat} {e u : TypeId} {s n b : Nat} {v : Value} {xs : List Value} (h : w.ownsRow B e s v n xs) (hk : Lib.OthersKept u (some b) w w') (hb : b < B) (hT : ¬ e = u) : w'.ownsRow B e s v n xs := by
 refine ⟨h.1, ?_⟩
 rcases h.2 with h' | ⟨g, cap, cur, h1, h2, h3, h4⟩
 ·exact .inl h'
 ·exact .inr ⟨g, cap, cur, h1, h2, hk g _ h3 (fun e => by have := Option.some.inj e; omega) (fun c fz e => by injection e with _ e2 _; exact hT e2), h4⟩

set_option maxRecDepth 8000 in
set_option maxHeartbeats 4000000 in
theorem cTextInI (a : Option Addr) (cap : Nat) (ts : List Tk) (x : Int) (w : World) (hR : TkRow w a ts) (hn : ts.length <= 1048576) (hz : TksSz 1048576 ts) :
  Calls Tryz.prog 92 #[.slice a ts.length cap, .int .i64 x] w fun e w' => e = .returned (.string (textI ts x)) /\ Below w.heap.size w w' := by
 have HR := hid hR
 have HB0 := hid ((Below.refl w.heap.size w).alloc (Nat.le_refl _) (.cells #[.pointer none, .slice none 0 0] 143))
 have C := hid (cKidsOfI a cap ts x (w.alloc (.cells #[.pointer none, .slice none 0 0] 143)) (hR.below HB0.out) hn hz)
 have HKS := hid (show (∀ q ∈ kidsI ts x, q < ts.length) /\ (∀ i, (joinT ts ((kidsI ts x).take i)).size <= 60 * i) /\ (kidsI ts x).length <= ts.length /\ ∀ q ∈ kidsI ts x, (textAt ts q).size <= 60 by
  unfold kidsI
  split
  ·rename_i q
   have ht := (hasB_t q).1
   exact ⟨fun q hq => kidsN_lt hq, fun i => by
    have := joinT_size (tree_text ht) ((kidsN ts x.toNat).take i)
    rw [List.length_take] at this
    omega, kidsTo_len _ _ _, fun q _ => tree_text ht q⟩
  ·exact ⟨fun q hq => absurd hq List.not_mem_nil, fun i => by rw [List.take_nil]; exact Nat.zero_le _, Nat.zero_le _, fun q hq => absurd hq List.not_mem_nil⟩)
 have HF := hid (Lib.fresh_isBuilder 143 5 w)
 rw [textI_join]
 obtain ⟨K, hK⟩ : ∃ K, kidsI ts x = K := ⟨_, rfl⟩
 rw [hK] at C HKS ⊢
 clear hR hz hK
 obtain ⟨n, hnn⟩ : ∃ n, ts.length = n := ⟨_, rfl⟩
 have HN := hid hnn
 rw [hnn] at hn C ⊢
 clear hnn
 go_enter Tryz.func92, Tryz.ntmps92
 go_wp2_with fail
 refine C.out.mono ?_
 rintro e w1 ⟨v, rfl, ho, hb1⟩
 obtain ⟨⟨av, cv, hv⟩, _⟩ := row64 ho
 have HO := hid (show w1.ownsRow (w.heap.size + 1) 2 1 v K.length (intC K) by have h := ho; rw [show (w.alloc (.cells #[.pointer none, .slice none 0 0] 143)).heap.size = w.heap.size + 1 by simp] at h; exact h)
 have HI1 := hid (isBuilder_below HF.out hb1)
 have HB1 := hid (bb HB0.out hb1)
 have hsz1 : w.heap.size < w1.heap.size := by have := hb1.size; simp at this; omega
 obtain ⟨L, hL⟩ : ∃ L, K.length = L := ⟨_, rfl⟩
 have HL := hid hL
 have hLn : L <= 1048576 := by have := HKS.out.2.2.1; rw [HN.out, hL] at this; omega
 rw [hL] at hv HO
 subst hv
 clear hb1 ho C hL HB0
 go_wp2_with fail
 go_loopw [12] (fun k wr => ∃ i : Nat, k = .int .i64 (i : Int) /\ i <= L /\ Hid (Lib.IsBuilder 143 5 w.heap.size w.heap.size (Lib.strCells (joinT ts (K.take i))) wr) /\ Hid (wr.ownsRow (w.heap.size + 1) 2 1 (.slice av L cv) L (intC K)) /\ Hid (Below w.heap.size w wr) /\ w.heap.size < wr.heap.size) (fun k _ => L - (intOf k).toNat)
 case atStart => exact ⟨0, rfl, Nat.zero_le _, HI1.out, HO.out, HB1.out, hsz1⟩
 case round =>
  clear HI1 HO HB1 HF
  obtain ⟨i, rfl, hi, HI, HO, HB, hsz⟩ := hrel
  have hjs := HKS.out.2.1 i
  by_cases hlt : i < L
  ·have hiK : i < K.length := by rw [HL.out]; exact hlt
   have hin : (i : Int) < (L : Int) := by omega
   have HX := hid (show joinT ts (K.take (i + 1)) = joinT ts (K.take i) ++ textAt ts K[i] by rw [take_snocN hiK, joinT_snoc])
   have hq := HKS.out.1 K[i] (List.getElem_mem hiK)
   have htx := HKS.out.2.2.2 K[i] (List.getElem_mem hiK)
   have ho := HO.out
   rw [<- HL.out] at ho
   obtain ⟨g, cg, eg, hgl, c0⟩ := (row64 ho).2 i hiK
   obtain ⟨rfl, rfl⟩ : av = some ⟨g, 0, none⟩ /\ cv = cg := by cases eg; exact ⟨rfl, rfl⟩
   obtain ⟨b, o, aa, ca, ea, hb, c1, c2, c3, c4, cr⟩ := (HR.out.below HB.out) K[i] hq
   rw [textAt_at hq] at htx HX
   have hqn : (K[i] : Int) < (n : Int) := by rw [HN.out] at hq; omega
   subst ea
   clear c1 c2 c3 eg ho cr
   generalize ts[K[i]].text = T at *
   generalize K[i] = q at *
   have C2 := hid (writeString w.heap.size w.heap.size (Lib.strCells (joinT ts (K.take i))) T wr HI.out (by rw [strC_len]; omega) (Nat.le_of_lt hsz))
   clear hjs
   go_wp2_with fail
   refine C2.out.mono ?_
   rintro e w2 ⟨rfl, hI2, hb2, hk2⟩
   have HI2 := hid hI2
   have HB2 := hid (HB.out.trans hb2)
   have HO2 := hid (own_others HO.out hk2 (Nat.lt_succ_self _) (by decide))
   have hsz2 : w.heap.size < w2.heap.size := by have := hb2.size; omega
   clear hI2 hb2 hk2 C2
   go_wp2_with fail
   go_roundw
   case rel => exact ⟨i + 1, by go_num, by omega, by rw [HX.out, <- strC_app]; exact HI2.out, HO2.out, HB2.out, hsz2⟩
   case measure => simp [intOf]; omega
  ·have hie : i = L := by omega
   subst hie
   have e1 : joinT ts (K.take i) = joinT ts K := by rw [List.take_of_length_le (by rw [HL.out]; exact Nat.le_refl _)]
   rw [e1] at HI
   obtain ⟨V, hV⟩ : ∃ V, joinT ts K = V := ⟨_, rfl⟩
   have HV := hid hV
   rw [hV] at HI
   clear hV
   have e2 := strC_eta V
   have hI2 := HI.out
   rw [Lib.strCells_eq] at hI2
   have C := hid (fun h => Tryz.Builder_String_any _ _ _ wr hI2 h)
   rw [e2] at C
   clear hI2 e1 e2 hjs
   go_wp2_with fail
   refine (C.out (Nat.le_of_lt hsz)).mono ?_
   rintro e w2 ⟨rfl, hb2⟩
   have HB2 := hid (HB.out.trans hb2)
   go_wp2_with fail
   go_ret
   exact ⟨by rw [HV.out]; rfl, HB2.out⟩

end Go.Proofs.YtlpbbkaelbafdaaGreatDoor
