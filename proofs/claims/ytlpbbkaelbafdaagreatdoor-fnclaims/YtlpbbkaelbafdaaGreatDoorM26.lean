/-  -/
import Derived.Test.YtlpbbkaelbafdaaGreatDoorM22
import Derived.Test.YtlpbbkaelbafdaaGreatDoorM24
import Derived.Test.YtlpbbkaelbafdaaGreatDoorM25
import Derived.Test.YtlpbbkaelbafdaaGreatDoorM21
import Derived.Test.YtlpbbkaelbafdaaGreatDoorM16
set_option linter.unusedVariables false
set_option linter.unusedSimpArgs false
namespace Go.Proofs.YtlpbbkaelbafdaaGreatDoor
open Go.RowKit

noncomputable def sayN (ts : List Tk) (j : Nat) : Say := ⟨atN ts j, txN ts j⟩

noncomputable def sayL (ts : List Tk) (l : List Nat) : List Say := l.map (sayN ts)

theorem sayL_len (ts : List Tk) (l : List Nat) : (sayL ts l).length = l.length := by unfold sayL; rw [List.length_map]

theorem known_kid {ts : List Tk} (hT : treeB ts = true) {j : Nat} (hj : j < ts.length) (loc : ByteArray) : knownI ts (j : Int) loc claimS = kidB ts loc j := by
 unfold knownI elemB hasB kidB
 rw [hT, decide_eq_true (show (0 : Int) <= (j : Int) /\ (j : Int) < ts.length by omega)]
 rfl

theorem text_kid {ts : List Tk} (hT : treeB ts = true) {j : Nat} (hj : j < ts.length) : textI ts (j : Int) = txN ts j := by
 unfold textI hasB txN
 rw [hT, decide_eq_true (show (0 : Int) <= (j : Int) /\ (j : Int) < ts.length by omega)]
 rfl

theorem step_sayT {ops : Array Oper} {o : Oper} {a : Act} {w : World} {K : Act -> World -> Prop} {Q : Exit -> Act -> World -> Prop} {F : Prop} (hgd : o.guard = none) (s x : Operand)
  (ho : o.op = .call { callee := .builtin .append, args := #[s, x], argTypes := #[52, 52] }) (B0 B : Nat) (v : Value) (L : List Say) (hs : a.eval s = v) (hrow : TRow B0 B w v L)
  (t : Say) (a1 : Option Addr) (c1 g nA : Nat) (hx : a.eval x = .slice (some ⟨g, 0, none⟩) 1 1) (hnA : t.attrs.length = nA) (hg : w.heap[g]? = some (.cells #[.slice a1 nA c1, .string t.text] 54 (0, 0))) (hA : LowAts w B0 a1 t.attrs) (hn : L.length <= 1000000)
  (h : ∀ v' w', TRow B0 B w' v' (L ++ [t]) /\ Below B w w' -> K (a.put o.dst v') w') : if Region.wanted o (yielded ops a.tmps) = true then Oper.wp Tryz.prog o a w K Q else F := by
 subst hnA
 obtain ⟨es, h1, rfl, h3⟩ := hrow.row
 rw [List.length_map] at hn
 obtain ⟨i0, hi, hz0, hz1, hz2⟩ := info_parts infoSay
 refine step_app_at hgd s x 52 ho B 54 i0 _ 2 40 Tryz.underlying52 hi hz0 hz1 hz2 rfl (by decide) v es.length (seC es) hs h1 ⟨g, 0, none⟩ 1 1 (seC [⟨t, a1, c1⟩]) hx (seC_len [⟨t, a1, c1⟩]) (fun j u hj => ?_) (seC_cell _) (by unfold maxLen; omega) (by omega) hrow.base ?_
 ·rw [add_plainW, Nat.zero_add, Lib.cell_of_heap hg]
  match j, hj with
  | 0, hj => exact hj
  | 1, hj => exact hj
 intro v' w' ho' hgr hw
 have hbB : Below B w w' := (Below.refl B w).grown hgr hrow.base (fun k e => (h1.lt k e).1)
 refine h v' w' ⟨⟨⟨es ++ [⟨t, a1, c1⟩], by rw [List.length_append, seC_app]; exact ho', by rw [List.map_append]; rfl, fun e he => ?_⟩, Nat.le_trans hrow.base hgr.size, hrow.low⟩, hbB⟩
 have hb0 : Below B0 w w' := hbB.mono hrow.low
 rcases List.mem_append.1 he with h' | h'
 ·exact (h3 e h').below hb0
 ·rw [List.mem_singleton] at h'
  subst h'
  exact hA.below hb0

theorem LowAts.of_below {w w' : World} {a : Option Addr} {l : List At} (h : AtRow w a l) (hb : Below w.heap.size w w') : LowAts w' w.heap.size a l := (LowAts.of_row h).below hb

set_option maxRecDepth 8000 in
set_option maxHeartbeats 8000000 in
theorem cSayingsIn (a : Option Addr) (cap : Nat) (ts : List Tk) (k : Nat) (loc : ByteArray) (w00 w : World) (hR0 : TkRow w00 a ts) (h00 : Below w00.heap.size w00 w) (hT : treeB ts = true) (hk : k < ts.length) (hn : ts.length <= 1048576) (hz : TksSz 1048576 ts) (hl : loc.size <= 1048576) :
  Calls Tryz.prog 39 #[.slice a ts.length cap, .int .i64 k, .string loc] w fun e w' => ∃ a' c', e = .returned (.slice a' (sayL ts (kidsK ts k loc)).length c') /\ SayT w' w00.heap.size w.heap.size a' (sayL ts (kidsK ts k loc)) /\ Below w.heap.size w w' := by
 have hR := hR0.below h00
 have H00 := hid h00
 have CK := hid (cKidsOfI a cap ts k w hR hn hz)
 have eK : kidsI ts (k : Int) = kidsN ts k := by
  unfold kidsI hasB
  rw [hT, decide_eq_true (show (0 : Int) <= (k : Int) /\ (k : Int) < ts.length by omega)]
  rfl
 rw [eK] at CK
 clear eK
 have H50 := hid (show ts.length <= 50 from (show TreeP ts by have h := hT; unfold treeB at h; simpa using h).2.1)
 have HLn := hid (show (kidsN ts k).length <= ts.length from kidsTo_len _ _ _)
 have HLT := hid (fun j (h : j ∈ kidsN ts k) => (kidsN_lt h : j < ts.length))
 have HKK := hid (show kidsK ts k loc = kidsP ts (kidsN ts k) loc (kidsN ts k).length by unfold kidsK kidsP; rw [List.take_length])
 have HKN := hid (fun j (h : j < ts.length) => known_kid hT h loc)
 have HTX := hid (fun j (h : j < ts.length) => text_kid hT h)
 have CN := hid (fun (j : Nat) wx (h : Below w.heap.size w wx) => cKnownI a cap ts (j : Int) loc claimS wx (hR.below h) hn hz hl (by decide))
 have CT := hid (fun (j : Nat) wx (h : Below w.heap.size w wx) => cTextInI a cap ts (j : Int) wx (hR.below h) hn hz)
 have HR := hid hR0
 generalize hLL : kidsN ts k = L at *
 obtain ⟨n, hnn⟩ : ∃ n, ts.length = n := ⟨_, rfl⟩
 have HN := hid hnn
 rw [hnn] at hn CK CN CT ⊢
 clear hnn hR hR0 h00 hk hz hT hLL
 obtain ⟨m, hm⟩ : ∃ m, L.length = m := ⟨_, rfl⟩
 have HM := hid hm
 have hmn : m <= n := by have := HLn.out; rw [hm, HN.out] at this; exact this
 unfold claimS at CN HKN
 go_enter Tryz.func39, Tryz.ntmps39
 go_wp2_with fail
 refine CK.out.mono ?_
 rintro e w1 ⟨vk, rfl, hown, hb1⟩
 obtain ⟨⟨ak, ck, hv⟩, hrd⟩ := row64 hown
 have HRD := hid hrd
 have HB1 := hid hb1
 rw [hm] at hv
 subst hv
 clear hown hb1 CK hrd
 go_wp2_with fail
 go_loopw [7, 14] (fun v x wr => ∃ i : Nat, x = .int .i64 (i : Int) /\ i <= m /\ Hid (TRow w00.heap.size w1.heap.size wr v (sayL ts (kidsP ts L loc i))) /\ Hid (Below w1.heap.size w1 wr)) (fun _ x _ => m - (intOf x).toNat)
 case atStart => exact ⟨0, rfl, Nat.zero_le _, by unfold kidsP; rw [List.take_zero]; exact TRow.start _ _ _ (Nat.le_refl _) (Nat.le_trans H00.out.size HB1.out.size), Below.refl _ _⟩
 case round =>
  obtain ⟨i, rfl, hin, HS, HB⟩ := hrel
  by_cases hlt : i < m
  ·have his : i < L.length := by rw [HM.out]; exact hlt
   have hit : (i : Int) < (m : Int) := by omega
   obtain ⟨g, cg, eg, hgl, c0⟩ := HRD.out i his
   obtain ⟨rfl, hzz, rfl⟩ := Value.slice.inj eg
   clear hzz
   have ci := (HB.out.cell (p := ⟨g, i, none⟩) hgl).trans c0
   have hj := HLT.out L[i] (List.getElem_mem his)
   have HNX := hid (kidsP_next (ts := ts) (loc := loc) his)
   have HLE := hid (show (sayL ts (kidsP ts L loc i)).length <= 1000000 by rw [sayL_len]; have := kidsP_len ts L loc i; have := H50.out; have := HN.out; omega)
   obtain ⟨j, hjj⟩ : ∃ j, L[i] = j := ⟨_, rfl⟩
   rw [hjj] at ci hj HNX
   clear c0 eg hjj
   have HBW := hid (bb HB1.out HB.out)
   have C1 := hid (CN.out j wr HBW.out)
   rw [HKN.out j hj] at C1
   obtain ⟨b, o, aa, ca, ea, hb, c1, c2, c3, c4, cr⟩ := HR.out j hj
   have hqn : (j : Int) < (n : Int) := by have h := hj; rw [HN.out] at h; omega
   have HAT := hid (show atN ts j = ts[j].attrs by unfold atN; rw [List.getElem?_eq_getElem hj])
   rw [<- HAT.out] at c3 cr
   obtain ⟨nA, hnA⟩ : ∃ nA, (atN ts j).length = nA := ⟨_, rfl⟩
   rw [hnA] at c3
   subst ea
   have cB := fun (wx : World) (h : Below w.heap.size w wx) => ((bb H00.out h).cell (p := ⟨b, o + j * 4 + 2, none⟩) hb).trans c3
   have HC3 := hid cB
   have HCR := hid (fun (wx : World) (h : Below w.heap.size w wx) => LowAts.of_below cr (bb H00.out h))
   clear c1 c2 c3 c4 cr hb cB
   cases hkb : kidB ts loc j with
   | false =>
    rw [hkb] at C1 HNX
    have HN2 := hid (show kidsP ts L loc (i + 1) = kidsP ts L loc i from by rw [HNX.out]; exact List.append_nil _)
    go_wp2_with fail
    refine C1.out.mono ?_
    rintro e w2 ⟨rfl, hb2⟩
    have HS2 := hid (HS.out.below hb2)
    have HB2 := hid (HB.out.trans (hb2.mono HB.out.size))
    clear hb2
    go_wp2_with fail
    go_roundw
    case rel => exact ⟨i + 1, by go_num, by omega, by rw [HN2.out]; exact HS2.out, HB2.out⟩
    case measure => simp [intOf]; omega
   | true =>
    rw [hkb] at C1 HNX
    have HN2 := hid (show sayL ts (kidsP ts L loc (i + 1)) = sayL ts (kidsP ts L loc i) ++ [⟨atN ts j, txN ts j⟩] from by rw [HNX.out]; unfold sayL; rw [List.map_append]; rfl)
    have CT1 := hid (fun (wx : World) (h : TRow w00.heap.size w1.heap.size wx u7 (sayL ts (kidsP ts L loc i)) /\ Below w1.heap.size w1 wx) => (show Calls Tryz.prog 92 #[.slice (some ⟨b, o, none⟩) n cap, .int .i64 (j : Int)] wx fun r w' => r = .returned (.string (txN ts j)) /\ (TRow w00.heap.size w1.heap.size w' u7 (sayL ts (kidsP ts L loc i)) /\ Below w1.heap.size w1 w') /\ w'.cell? ⟨b, o + j * 4 + 2, none⟩ = some (.slice aa nA ca) /\ (∀ ob, (w'.alloc ob).cell? ⟨b, o + j * 4 + 2, none⟩ = some (.slice aa nA ca)) by
     refine (CT.out j wx (bb HB1.out h.2)).mono ?_
     rintro r w7 ⟨rfl, hb7⟩
     rw [HTX.out j hj]
     have h7 := h.2.trans (hb7.mono h.2.size)
     exact ⟨rfl, ⟨h.1.below hb7, h7⟩, HC3.out _ (bb HB1.out h7), fun ob => HC3.out _ ((bb HB1.out h7).alloc (bb HB1.out h7).size ob)⟩))
    generalize txN ts j = TX at *
    generalize sayL ts (kidsP ts L loc i) = Ls at *
    generalize atN ts j = AT at *
    go_wp2_with fail
    refine C1.out.mono ?_
    rintro e w2 ⟨rfl, hb2⟩
    have HB2 := hid (HB.out.trans (hb2.mono HB.out.size))
    have HSx := hid (show TRow w00.heap.size w1.heap.size w2.drew u7 Ls /\ Below w1.heap.size w1 w2.drew from ⟨(HS.out.below hb2).below ((Below.refl w2.heap.size w2).drew), HB2.out.drew⟩)
    have k2 : w2.cell? ⟨b, o + j * 4 + 2, none⟩ = some (.slice aa nA ca) := HC3.out _ (bb HB1.out HB2.out)
    clear hb2 C1 CT
    go_wp2_with fail
    go_region_law (first
     | (refine step_sayT rfl (.tmp 22) (.tmp 32) rfl w00.heap.size w1.heap.size u7 Ls (by simp [Act.eval, Act.put]) (HSx.out.1.below ((Below.refl _ _).alloc (Nat.le_refl _) (.cells #[.slice aa nA ca, .string TX] 54))) ⟨AT, TX⟩ aa ca W2.heap.size nA (by simp [Act.eval, Act.put]) hnA (heap_alloc_new _ _) (HCR.out _ ((bb HB1.out HSx.out.2).alloc (bb HB1.out HSx.out.2).size _)) HLE.out ?_; rintro v9 w9 ⟨hr9, hb9⟩; have HR9 := hid hr9; have HB9 := hid (HSx.out.2.trans (Below.trans ((Below.refl W2.heap.size W2).alloc (Nat.le_refl _) (.cells #[.slice aa nA ca, .string TX] 54) |>.mono HSx.out.2.size) hb9)); clear hr9 hb9)
     | (go_simp; go_at_call 92; refine (CT1.out _ HSx.out).mono ?_; rintro r W2 ⟨rfl, hS7, cB, cC⟩; replace HSx := hid hS7; clear hS7))
    all_goals
     rw [<- HN2.out] at HR9
     go_wp2_with fail
     go_roundw
     case rel => exact ⟨i + 1, by go_num, by omega, HR9.out, HB9.out⟩
     case measure => (simp [intOf]; try omega)
  ·have hie : i = m := by omega
   subst hie
   have HF := hid (show TRow w00.heap.size w1.heap.size wr u7 (sayL ts (kidsK ts k loc)) by
    have h := HS.out
    rw [<- HM.out, <- HKK.out] at h
    exact h)
   obtain ⟨a5, c5, hv, hsr⟩ := HF.out.sayT
   have HSR := hid (show SayT wr w00.heap.size w.heap.size a5 (sayL ts (kidsK ts k loc)) from fun hl => by
    obtain ⟨b, cu, e1, e2, e3, e4⟩ := hsr hl
    exact ⟨b, cu, e1, Nat.le_trans HB1.out.size e2, e3, e4⟩)
   have HBF := hid (bb HB1.out HB.out)
   clear hsr
   subst hv
   go_wp2_with fail
   go_ret
   exact ⟨a5, c5, rfl, HSR.out, HBF.out⟩

end Go.Proofs.YtlpbbkaelbafdaaGreatDoor

namespace Go.Proofs.YtlpbbkaelbafdaaGreatDoor
open Go.RowKit

set_option maxRecDepth 16000 in
set_option maxHeartbeats 16000000 in
theorem c_spec_l14Decoded (a : Option Addr) (cap : Nat) (ts : List Tk) (k : Nat) (w : World) (hR : TkRow w a ts) (hT : TreeP ts) (hk : k < ts.length) (hn : ts.length <= 1048576) (hz : TksSz 1048576 ts) :
  Calls Tryz.prog 40 #[.slice a ts.length cap, .int .i64 (k : Int)] w (DecAns w (qdA ts k) (qdB ts k)) := by
 have HR := hid hR
 have CVA := hid (fun (wx : World) (h : Below w.heap.size w wx) => cValAtS (hR.below h) hz hk idS (by decide))
 have CKN := hid (fun wx (hb : Below w.heap.size w wx) => c_spec_l9Known a cap ts k ⟨#[67, 108, 97, 105, 109]⟩ claimS wx (hR.below hb) hT hk hn hz)
 have CKI := hid (fun (loc : ByteArray) wx (hb : Below w.heap.size w wx) => c_spec_l14Kids a cap ts k loc wx (hR.below hb) hT hk hn hz)
 have CTX := hid (fun (j : Nat) (hj : j < ts.length) wx (hb : Below w.heap.size w wx) => cTextS a cap ts j wx (hR.below hb) hj hn hT)
 have CVN := hid (fun (j : Nat) (hj : j < ts.length) (name : ByteArray) (hs : name.size <= 1048576) (wx : World) (h : Below w.heap.size w wx) => cValAtS (hR.below h) hz hj name hs)
 have HDB := hid (fun (h : _) => @qdB_head ts k h)
 have HDN := hid (fun (h : ¬ DecP ts k) => qdB_no h)
 have HNA := hid (nameI_at hk)
 have HCZ := hid (qdC_sz hT hz k)
 have HDP := hid (@decP_of ts k)
 have E := empty_is (nameI ts k)
 have HB0 := hid (((Below.refl w.heap.size w).alloc (Nat.le_refl _) (.cells #[.string ⟨#[]⟩, .string ⟨#[]⟩, .string ⟨#[]⟩, .int .i64 0, .int .i64 0, .string ⟨#[]⟩, .string ⟨#[]⟩, .slice none 0 0] 26)).alloc (by simp) (.cells #[.string ⟨#[]⟩, .string ⟨#[]⟩, .string ⟨#[]⟩, .int .i64 0, .int .i64 0, .string ⟨#[]⟩, .string ⟨#[]⟩, .slice none 0 0] 26))
 have M4 := hid (blk_alloc (heap_alloc_new w (.cells #[.string ⟨#[]⟩, .string ⟨#[]⟩, .string ⟨#[]⟩, .int .i64 0, .int .i64 0, .string ⟨#[]⟩, .string ⟨#[]⟩, .slice none 0 0] 26)) (.cells #[.string ⟨#[]⟩, .string ⟨#[]⟩, .string ⟨#[]⟩, .int .i64 0, .int .i64 0, .string ⟨#[]⟩, .string ⟨#[]⟩, .slice none 0 0] 26))
 have M6 := hid (q_heap2 w (.cells #[.string ⟨#[]⟩, .string ⟨#[]⟩, .string ⟨#[]⟩, .int .i64 0, .int .i64 0, .string ⟨#[]⟩, .string ⟨#[]⟩, .slice none 0 0] 26) (.cells #[.string ⟨#[]⟩, .string ⟨#[]⟩, .string ⟨#[]⟩, .int .i64 0, .int .i64 0, .string ⟨#[]⟩, .string ⟨#[]⟩, .slice none 0 0] 26))
 obtain ⟨w0, hw0⟩ : ∃ w0, (w.alloc (.cells #[.string ⟨#[]⟩, .string ⟨#[]⟩, .string ⟨#[]⟩, .int .i64 0, .int .i64 0, .string ⟨#[]⟩, .string ⟨#[]⟩, .slice none 0 0] 26)).alloc (.cells #[.string ⟨#[]⟩, .string ⟨#[]⟩, .string ⟨#[]⟩, .int .i64 0, .int .i64 0, .string ⟨#[]⟩, .string ⟨#[]⟩, .slice none 0 0] 26) = w0 := ⟨_, rfl⟩
 rw [hw0] at HB0 M4 M6
 obtain ⟨tb, tp, aa, na, ca, rfl, x2, hcv⟩ := CVA.out w0 HB0.out
 have CV := hid (hcv w0 (Below.refl _ _))
 obtain ⟨tb', tp', aa', ca', e', htb, x0, x1, x2', x3, hTA⟩ := hR.below HB0.out k hk
 cases e'
 have x1' : w0.cell? ⟨tb, tp + k * 4 + 1, none⟩ = some (.string (nameI ts k)) := by rw [HNA.out]; exact x1
 obtain ⟨n, hnn⟩ : ∃ n, ts.length = n := ⟨_, rfl⟩
 have HNN := hid hnn
 have hkn : (k : Int) < (n : Int) := by omega
 rw [hnn] at hn CKN CKI CTX CVN ⊢
 clear hnn hcv hTA x0 x1 x3 x2' HNA htb CVA hR hT hz
 obtain ⟨idv, hid0⟩ : ∃ v, valN ts k idS = v := ⟨_, rfl⟩
 have HID := hid hid0
 obtain ⟨IS, hIS⟩ : ∃ v, (valF (atN ts k) idS).isSome = v := ⟨_, rfl⟩
 have HIS := hid hIS
 rw [hid0, hIS] at CV
 clear hid0 hIS
 obtain ⟨KN, hKN⟩ : ∃ v, knownN ts k (⟨#[67, 108, 97, 105, 109]⟩ : ByteArray) claimS = v := ⟨_, rfl⟩
 have HKN := hid hKN
 rw [hKN] at CKN
 clear hKN
 obtain ⟨P, hP⟩ : ∃ v, decide ((nameI ts k).size = 0) = v := ⟨_, rfl⟩
 have HP := hid hP
 rw [hP] at E
 clear hP
 obtain ⟨H, hH⟩ : ∃ v, (!P && KN && IS) = v := ⟨_, rfl⟩
 have HH := hid hH
 clear hH
 have HHF : Hid (H = false -> qdB ts k = false) := fun h => HDB.out (by rw [HP.out, HKN.out, HIS.out, HH.out]; exact h)
 have HHT : Hid (H = true -> DecP ts k -> qdB ts k = true) := fun h hd => qdB_yes (by rw [HP.out, HKN.out, HIS.out, HH.out]; exact h) hd
 generalize nameI ts k = nm at *
 rw [<- hw0] at x2
 have HW0 := hid hw0
 clear hw0
 go_enter Tryz.func40, Tryz.ntmps40
 go_wp2_with fail
 simp only [HW0.out] at x2 ⊢
 refine CV.out.mono ?_
 rintro e w1 ⟨rfl, rfl⟩
 clear CV HW0
 go_upto_region 3 with fail
 go_cut [52] from 37 to 52 (fun v wv => v = .bool (!H) /\ Hid (Below w1.heap.size w1 wv))
 case first =>
  cases P with
  | true =>
   go_wp2_with fail
   go_meet
   exact ⟨by rw [<- HH.out]; rfl, Below.refl _ _⟩
  | false =>
   go_wp2_with fail
   refine (CKN.out _ HB0.out).mono ?_
   rintro e w1b ⟨rfl, hb1⟩
   have HB1 := hid hb1
   clear hb1
   cases KN with
   | false =>
    go_wp2_with fail
    go_meet
    exact ⟨by rw [<- HH.out]; rfl, HB1.out⟩
   | true =>
    go_wp2_with fail
    go_meet
    exact ⟨by rw [<- HH.out]; simp, HB1.out⟩
 obtain ⟨rfl, HC⟩ := hcut
 have HB1 := hid (bb HB0.out HC.out)
 have M41 := hid (blk_below M4.out HC.out)
 have M61 := hid (blk_below M6.out HC.out)
 clear HC M4 M6 HB0 x2 x1' CKN E HDB HKN HIS HP HH
 cases H with
 | false =>
  have HQF := hid (HHF.out rfl)
  clear HHF HHT
  obtain ⟨⟨y0, y1, y2, y3, y4, y5, y6, y7⟩, yf0, yf1, yf2, yf3, yf4, yf5, yf6, yf7⟩ := box8 M41.out
  obtain ⟨⟨z0, z1, z2, z3, z4, z5, z6, z7⟩, zf0, zf1, zf2, zf3, zf4, zf5, zf6, zf7⟩ := box8 M61.out
  have HC4 := hid (show w.heap.size <= w.heap.size from Nat.le_refl _)
  have HBL := hid (HB1.out)
  have HNO := hid (HQF.out)
  go_wp2_with fail
  refine bodyPost_ret (v := .tuple #[.agg #[.string ⟨#[]⟩, .string ⟨#[]⟩, .string ⟨#[]⟩, .int .i64 0, .int .i64 0, .string ⟨#[]⟩, .string ⟨#[]⟩, .slice none 0 0], .bool false]) (by simp [results, Tryz.results40, go_sem, y0, y1, y2, y3, y4, y5, y6, y7, z0, z1, z2, z3, z4, z5, z6, z7]) rfl ⟨none, 0, ?_, ?_, ?_⟩
  ·unfold qdA
   rw [HNO.out]
   rfl
  ·unfold qdA
   rw [HNO.out]
   exact fun hl => absurd hl (Nat.lt_irrefl 0)
  ·iterate 8 refine Below.setCell ?_ HC4.out _
   exact HBL.out
 | true =>
 have HQT := hid (HHT.out rfl)
 clear HHF HHT
 have hs1 := HB1.out.size
 have HG1 := hid (show w.heap.size + 1 < wc.heap.size from lt_of_heap M61.out)
 have HBa := hid ((Below.refl wc.heap.size wc).alloc (Nat.le_refl _) (.cells #[.string idv, .string ⟨#[]⟩, .string ⟨#[]⟩, .int .i64 0, .int .i64 0, .string ⟨#[]⟩, .string ⟨#[]⟩, .slice none 0 0] 26))
 have MC := hid (heap_alloc_new wc (.cells #[.string idv, .string ⟨#[]⟩, .string ⟨#[]⟩, .int .i64 0, .int .i64 0, .string ⟨#[]⟩, .string ⟨#[]⟩, .slice none 0 0] 26))
 obtain ⟨wa, hwa⟩ : ∃ wa, wc.alloc (.cells #[.string idv, .string ⟨#[]⟩, .string ⟨#[]⟩, .int .i64 0, .int .i64 0, .string ⟨#[]⟩, .string ⟨#[]⟩, .slice none 0 0] 26) = wa := ⟨_, rfl⟩
 rw [hwa] at HBa MC
 have hsa : wa.heap.size = wc.heap.size + 1 := by rw [<- hwa, World.size_alloc]
 have HBn := hid ((Below.refl wa.heap.size wa).alloc (Nat.le_refl _) (.cells nmCells 9))
 have MN := hid (heap_alloc_new wa (.cells nmCells 9))
 obtain ⟨wn, hwn⟩ : ∃ wn, wa.alloc (.cells nmCells 9) = wn := ⟨_, rfl⟩
 rw [hwn] at HBn MN
 have hsn : wn.heap.size = wc.heap.size + 2 := by rw [<- hwn, World.size_alloc, hsa]
 have HBt := hid ((Below.refl wn.heap.size wn).alloc (Nat.le_refl _) (.cells #[] 9))
 have HOT := hid (World.ownsRow_made (base := w.heap.size) (e := 9) (size := 1) wn #[] 0 (by omega) (by decide) rfl)
 obtain ⟨wt, hwt⟩ : ∃ wt, wn.alloc (.cells #[] 9) = wt := ⟨_, rfl⟩
 rw [hwt] at HBt HOT
 rw [hsn] at HOT
 rw [hsa] at MN
 have HST := hid (show DSt w wt w.heap.size (w.heap.size + 1) wc.heap.size (wc.heap.size + 1) idv 0 0 (.slice (some ⟨wc.heap.size + 2, 0, none⟩) 0 0) [] from
  ⟨bb (bb (bb HB1.out HBa.out) HBn.out) HBt.out, blk_below (blk_below (blk_below M41.out HBa.out) HBn.out) HBt.out, blk_below (blk_below (blk_below M61.out HBa.out) HBn.out) HBt.out, blk_below (blk_below MC.out HBn.out) HBt.out, blk_below MN.out HBt.out, HOT.out, fun e => by have h : wc.heap.size + 2 = w.heap.size := Option.some.inj e; omega, fun e => by have h : wc.heap.size + 2 = w.heap.size + 1 := Option.some.inj e; omega, fun e => by have h : wc.heap.size + 2 = wc.heap.size := Option.some.inj e; omega, fun e => by have h : wc.heap.size + 2 = wc.heap.size + 1 := Option.some.inj e; omega, Nat.le_refl _, by omega, hs1, by have := HG1.out; omega, by have := HG1.out; omega, by omega⟩)
 unfold nmCells localN at hwn
 have HWA := hid hwa
 have HWN := hid hwn
 have HWT := hid hwt
 obtain ⟨B4, hB4⟩ : ∃ B, w.heap.size = B := ⟨_, rfl⟩
 obtain ⟨bc, hbc⟩ : ∃ B, wc.heap.size = B := ⟨_, rfl⟩
 rw [hbc] at HST
 rw [hB4] at HST
 clear hwa hwn hwt hsa hsn
 clear M41 M61 HBa MC HBn MN HBt HOT HG1 hs1 HB1
 go_wp2_with fail
 simp only [HWA.out, HWN.out, HWT.out]
 clear HWA HWN HWT hbc
 obtain ⟨i0, hi, hz0, hz1, hz2⟩ := info_parts info9
 have HI := hid (And.intro hi (And.intro hz0 (And.intro hz1 hz2)))
 clear hi hz0 hz1 hz2
 go_loopw [11, 12] (fun v x wr => ∃ (q : Nat) (fr ti : Int), x = .int .i64 (q : Int) /\ q <= 5 /\ Hid (DecQ ts k q) /\ Hid (2 < q -> fr = (timN ts (kidsK ts k (localN 2)) fromS).1 /\ ti = (timN ts (kidsK ts k (localN 2)) toS).1) /\ Hid (DSt w wr B4 (B4 + 1) bc (bc + 1) idv fr ti v (txtsN ts k q))) (fun _ x _ => 5 - (intOf x).toNat)
 case atStart => exact ⟨0, 0, 0, rfl, by omega, decQ_zero ts k, fun h => absurd h (by omega), HST.out⟩
 case round =>
  clear HST
  obtain ⟨q, fr, ti, rfl, hq5, HQ, HF, HS⟩ := hrel
  by_cases hq : q < 5
  ·have hqi : (q : Int) < 5 := by omega
   have c0 := HS.out.nm hq
   have CK1 := hid (CKI.out (localN q) _ HS.out.bel)
   have HLT := hid (fun j (h : j ∈ kidsK ts k (localN q)) => show j < n from by rw [<- HNN.out]; exact kidsK_lt h)
   have HBD := hid (fun h => HDN.out (decQ_bad (ts := ts) (k := k) hq h))
   have HNX := hid (fun a b c d => decQ_next (ts := ts) (k := k) hq HQ.out a b c d)
   have HTN := hid (txtsN_next ts k q)
   have HTL := hid (txtsN_len ts k q)
   have hlk := kidsK_len ts k (localN q)
   rw [HNN.out] at hlk
   go_wp2_with fail
   refine CK1.out.mono ?_
   rintro e w1 ⟨v13, rfl, ho13, hb13⟩
   have HS1 := hid (HS.out.below hb13)
   have HVB := hid (fun g (h : wr.heap.size <= g) (e : u11.ownBlock = some g) => show False from by have := (HS.out.own.lt g e).2; omega)
   have HO13 := hid ho13
   clear ho13 hb13 c0 CK1
   rcases hL : kidsK ts k (localN q) with _ | ⟨j, _ | ⟨j2, l2⟩⟩
   ·rw [hL] at HO13 HBD HNX HTN
    obtain ⟨a13, c13, hv13, _⟩ := own64 HO13.out
    subst hv13
    by_cases hq4 : q < 4
    ·have HQF := hid (HBD.out (.inr (.inl ⟨hq4, rfl⟩)))
     have hd4 : decide ((q : Int) < 4) = true := by simp; omega
     clear hL
     obtain ⟨⟨y0, y1, y2, y3, y4, y5, y6, y7⟩, yf0, yf1, yf2, yf3, yf4, yf5, yf6, yf7⟩ := box8 HS1.out.h4
     obtain ⟨⟨z0, z1, z2, z3, z4, z5, z6, z7⟩, zf0, zf1, zf2, zf3, zf4, zf5, zf6, zf7⟩ := box8 HS1.out.h6
     have HC4 := hid (HS1.out.c4)
     have HBL := hid (HS1.out.bel)
     have HNO := hid (HQF.out)
     go_wp2_with fail
     refine bodyPost_ret (v := .tuple #[.agg #[.string ⟨#[]⟩, .string ⟨#[]⟩, .string ⟨#[]⟩, .int .i64 0, .int .i64 0, .string ⟨#[]⟩, .string ⟨#[]⟩, .slice none 0 0], .bool false]) (by simp [results, Tryz.results40, go_sem, y0, y1, y2, y3, y4, y5, y6, y7, z0, z1, z2, z3, z4, z5, z6, z7]) rfl ⟨none, 0, ?_, ?_, ?_⟩
     ·unfold qdA
      rw [HNO.out]
      rfl
     ·unfold qdA
      rw [HNO.out]
      exact fun hl => absurd hl (Nat.lt_irrefl 0)
     ·iterate 8 refine Below.setCell ?_ HC4.out _
      exact HBL.out
    ·have hqe : q = 4 := by omega
     subst hqe
     have HNX2 := hid (HNX.out (by simp) (fun h => absurd h (by omega)) (fun h => absurd h (by omega)) (fun _ h => by rw [hL] at h; cases h))
     have HF2 := hid (HF.out (by omega))
     rw [show fstT ts [] = nE from rfl] at HTN
     unfold nE at HTN
     clear hL hq4
     have HOA := hid (HS1.out.own.alloc (.cells #[.string ⟨#[]⟩] 9))
     have HLA := hid ((Below.refl w1.heap.size w1).alloc (Nat.le_refl _) (.cells #[.string ⟨#[]⟩] 9))
     have HSA := hid (HS1.out.below HLA.out)
     have H3 := hid (show (txtsN ts k 4).length + 1 <= maxLen by rw [HTL.out]; unfold maxLen; omega)
     have H4 := hid (show ((txtsN ts k 4).length + 1) * 16 <= 140737488355328 by rw [HTL.out]; omega)
     have H5 := hid (show w.heap.size <= (w1.alloc (.cells #[.string ⟨#[]⟩] 9)).heap.size by have := HS1.out.bel.size; rw [World.size_alloc]; omega)
     go_wp2_with (at_builtin; refine wpList_append_own_at _ rfl _ _ 85 rfl w.heap.size 9 i0 (.string ByteArray.empty) 1 16 Tryz.underlying85 HI.out.1 HI.out.2.1 HI.out.2.2.1 HI.out.2.2.2 rfl (by decide) u11 _ _ rfl HOA.out ⟨w1.heap.size, 0, none⟩ 1 1 [.string ⟨#[]⟩] rfl rfl (one_cell _ _ _) (one_str _) H3.out H4.out H5.out ?_)
     intro v9 w9 hown9 hgrow9 _ hat9
     rw [<- hB4] at hown9
     have HS9 := hid (HSA.out.more hown9 hgrow9 (by rw [World.size_alloc]; exact hat9))
     rw [<- HTN.out] at HS9
     clear hown9 hgrow9 hat9
     go_wp2_with fail
     go_roundw
     case rel => exact ⟨5, fr, ti, by go_num, by omega, HNX2.out, fun _ => HF2.out, HS9.out⟩
     case measure => (simp [intOf]; try omega)
   ·rw [hL] at HO13 HNX HTN HLT
    obtain ⟨g13, c13, cu13, hv13, hg13, hh13, hc13⟩ := one_int HO13.out
    subst hv13
    have hjn := HLT.out j (by simp)
    have d0 : w1.cell? ⟨g13, 0, none⟩ = some (.int .i64 (j : Int)) := by rw [Lib.cell_of_heap hh13]; exact hc13
    have HC13 := hid (And.intro hh13 hc13)
    have HG13 := hid hg13
    have CT1 := hid (CTX.out j hjn _ HS1.out.bel)
    obtain ⟨T, hT⟩ : ∃ T, txN ts j = T := ⟨_, rfl⟩
    have HTX := hid hT
    rw [show joinT ts (kidsN ts j) = T from hT] at CT1
    rw [show fstT ts [j] = T from hT] at HTN
    have HFT := hid (show fstT ts (kidsK ts k (localN q)) = T by rw [hL]; exact hT)
    have HKL := hid hL
    clear hL hT hh13 hc13 hg13 HO13
    go_wp2_with fail
    refine CT1.out.mono ?_
    rintro e w2 ⟨rfl, hb2⟩
    have HS2 := hid (HS1.out.below hb2)
    have HC2 := hid (show w2.heap[g13]? = some (.cells cu13 2 (0, 0)) from blk_below HC13.out.1 hb2)
    clear hb2 CT1 d0
    have HOA := hid (HS2.out.own.alloc (.cells #[.string T] 9))
    have HLA := hid ((Below.refl w2.heap.size w2).alloc (Nat.le_refl _) (.cells #[.string T] 9))
    have HSA := hid (HS2.out.below HLA.out)
    have H3 := hid (show (txtsN ts k q).length + 1 <= maxLen by rw [HTL.out]; unfold maxLen; omega)
    have H4 := hid (show ((txtsN ts k q).length + 1) * 16 <= 140737488355328 by rw [HTL.out]; omega)
    have H5 := hid (show w.heap.size <= (w2.alloc (.cells #[.string T] 9)).heap.size by have := HS2.out.bel.size; rw [World.size_alloc]; omega)
    go_wp2_with (at_builtin; refine wpList_append_own_at _ rfl _ _ 85 rfl w.heap.size 9 i0 (.string ByteArray.empty) 1 16 Tryz.underlying85 HI.out.1 HI.out.2.1 HI.out.2.2.1 HI.out.2.2.2 rfl (by decide) u11 _ _ rfl HOA.out ⟨w2.heap.size, 0, none⟩ 1 1 [.string T] rfl rfl (one_cell _ _ _) (one_str _) H3.out H4.out H5.out ?_)
    intro v9 w9 hown9 hgrow9 _ hat9
    rw [<- hB4] at hown9
    have HS9 := hid (HSA.out.more hown9 hgrow9 (by rw [World.size_alloc]; exact hat9))
    rw [<- HTN.out] at HS9
    have HC9 := hid (show w9.cell? ⟨g13, 0, none⟩ = some (.int .i64 (j : Int)) from by
     have h1 := blk_below HC2.out HLA.out
     rw [Lib.cell_of_heap ((hgrow9.block g13 (lt_of_heap h1) (fun e => HVB.out g13 HG13.out e.symm)).trans h1)]
     exact HC13.out.2)
    clear hown9 hgrow9 hat9 HOA HLA HSA H3 H4 H5 HC2 HC13
    by_cases hq4 : q = 4
    ·subst hq4
     have E2 := empty_is T
     by_cases hT0 : T.size = 0
     ·rw [decide_eq_true hT0] at E2
      have HQF := hid (HBD.out (.inr (.inr (.inl ⟨rfl, by rw [HKL.out]; rfl, by rw [HFT.out]; exact hT0⟩))))
      clear hT0
      obtain ⟨⟨y0, y1, y2, y3, y4, y5, y6, y7⟩, yf0, yf1, yf2, yf3, yf4, yf5, yf6, yf7⟩ := box8 HS9.out.h4
      obtain ⟨⟨z0, z1, z2, z3, z4, z5, z6, z7⟩, zf0, zf1, zf2, zf3, zf4, zf5, zf6, zf7⟩ := box8 HS9.out.h6
      have HC4 := hid (HS9.out.c4)
      have HBL := hid (HS9.out.bel)
      have HNO := hid (HQF.out)
      go_wp2_with fail
      refine bodyPost_ret (v := .tuple #[.agg #[.string ⟨#[]⟩, .string ⟨#[]⟩, .string ⟨#[]⟩, .int .i64 0, .int .i64 0, .string ⟨#[]⟩, .string ⟨#[]⟩, .slice none 0 0], .bool false]) (by simp [results, Tryz.results40, go_sem, y0, y1, y2, y3, y4, y5, y6, y7, z0, z1, z2, z3, z4, z5, z6, z7]) rfl ⟨none, 0, ?_, ?_, ?_⟩
      ·unfold qdA
       rw [HNO.out]
       rfl
      ·unfold qdA
       rw [HNO.out]
       exact fun hl => absurd hl (Nat.lt_irrefl 0)
      ·iterate 8 refine Below.setCell ?_ HC4.out _
       exact HBL.out
     ·rw [decide_eq_false hT0] at E2
      have HNX2 := hid (HNX.out (by simp) (fun h => absurd h (by omega)) (fun h => absurd h (by omega)) (fun _ _ => by rw [HFT.out]; exact hT0))
      have HF2 := hid (HF.out (by omega))
      clear hT0
      go_wp2_with fail
      go_roundw
      case rel => exact ⟨5, fr, ti, by go_num, by omega, HNX2.out, fun _ => HF2.out, HS9.out⟩
      case measure => (simp [intOf]; try omega)
    have e4 : ((q : Int) == 4) = false := by simp; omega
    by_cases hq2 : q = 2
    ·subst hq2
     obtain ⟨b5, o5, aa5, na5, ca5, e5, x5, hc5⟩ := CVN.out j hjn fromS (by decide) w9 HS9.out.bel
     cases e5
     obtain ⟨b6, o6, aa6, na6, ca6, e6, x6, hc6⟩ := CVN.out j hjn toS (by decide) w9 HS9.out.bel
     cases e6
     rw [x5] at x6
     cases x6
     have CV5 := hid (hc5 w9 (Below.refl _ _))
     have CV6 := hid (hc6 w9 (Below.refl _ _))
     have hji : (j : Int) < (n : Int) := by omega
     have d9 := HC9.out
     have CO5 := hid (fun wx => cOfS (valN ts j fromS) wx)
     have CO6 := hid (fun wx => cOfS (valN ts j toS) wx)
     have HTF := hid (show timN ts (kidsK ts k (localN 2)) fromS = timeOf (valN ts j fromS).data.toList by rw [HKL.out]; rfl)
     have HTT := hid (show timN ts (kidsK ts k (localN 2)) toS = timeOf (valN ts j toS).data.toList by rw [HKL.out]; rfl)
     generalize (valF (atN ts j) fromS).isSome = s5 at *
     generalize (valF (atN ts j) toS).isSome = s6 at *
     generalize valN ts j fromS = U at *
     generalize valN ts j toS = V at *
     generalize timeOf U.data.toList = tu at *
     generalize timeOf V.data.toList = tv at *
     obtain ⟨x7, b7⟩ := tu
     obtain ⟨x8, b8⟩ := tv
     simp only at CO5 CO6
     clear hc5 hc6
     go_wp2_with fail
     refine CV5.out.mono ?_
     rintro e w10 ⟨rfl, hw10⟩
     subst hw10
     go_wp2_with fail
     refine CV6.out.mono ?_
     rintro e w10 ⟨rfl, hw10⟩
     subst hw10
     clear CV5 CV6
     go_wp2_with fail
     refine (CO5.out _).mono ?_
     rintro e w11 ⟨rfl, hb11⟩
     have HS11 := hid (HS9.out.below hb11)
     clear hb11 d9 x5 CO5
     go_wp2_with fail
     refine (CO6.out _).mono ?_
     rintro e w12 ⟨rfl, hb12⟩
     have HS12 := hid (HS11.out.below hb12)
     clear hb12 CO6 HS11
     cases b7 with
     | false =>
      have HQF := hid (HBD.out (.inr (.inr (.inr ⟨by simp, .inl (by rw [HTF.out])⟩))))
      obtain ⟨⟨y0, y1, y2, y3, y4, y5, y6, y7⟩, yf0, yf1, yf2, yf3, yf4, yf5, yf6, yf7⟩ := box8 HS12.out.h4
      obtain ⟨⟨z0, z1, z2, z3, z4, z5, z6, z7⟩, zf0, zf1, zf2, zf3, zf4, zf5, zf6, zf7⟩ := box8 HS12.out.h6
      have HC4 := hid (HS12.out.c4)
      have HBL := hid (HS12.out.bel)
      have HNO := hid (HQF.out)
      go_wp2_with fail
      refine bodyPost_ret (v := .tuple #[.agg #[.string ⟨#[]⟩, .string ⟨#[]⟩, .string ⟨#[]⟩, .int .i64 0, .int .i64 0, .string ⟨#[]⟩, .string ⟨#[]⟩, .slice none 0 0], .bool false]) (by simp [results, Tryz.results40, go_sem, y0, y1, y2, y3, y4, y5, y6, y7, z0, z1, z2, z3, z4, z5, z6, z7]) rfl ⟨none, 0, ?_, ?_, ?_⟩
      ·unfold qdA
       rw [HNO.out]
       rfl
      ·unfold qdA
       rw [HNO.out]
       exact fun hl => absurd hl (Nat.lt_irrefl 0)
      ·iterate 8 refine Below.setCell ?_ HC4.out _
       exact HBL.out
     | true =>
     cases b8 with
     | false =>
      have HQF := hid (HBD.out (.inr (.inr (.inr ⟨by simp, .inr (by rw [HTT.out])⟩))))
      obtain ⟨⟨y0, y1, y2, y3, y4, y5, y6, y7⟩, yf0, yf1, yf2, yf3, yf4, yf5, yf6, yf7⟩ := box8 HS12.out.h4
      obtain ⟨⟨z0, z1, z2, z3, z4, z5, z6, z7⟩, zf0, zf1, zf2, zf3, zf4, zf5, zf6, zf7⟩ := box8 HS12.out.h6
      have HC4 := hid (HS12.out.c4)
      have HBL := hid (HS12.out.bel)
      have HNO := hid (HQF.out)
      go_wp2_with fail
      refine bodyPost_ret (v := .tuple #[.agg #[.string ⟨#[]⟩, .string ⟨#[]⟩, .string ⟨#[]⟩, .int .i64 0, .int .i64 0, .string ⟨#[]⟩, .string ⟨#[]⟩, .slice none 0 0], .bool false]) (by simp [results, Tryz.results40, go_sem, y0, y1, y2, y3, y4, y5, y6, y7, z0, z1, z2, z3, z4, z5, z6, z7]) rfl ⟨none, 0, ?_, ?_, ?_⟩
      ·unfold qdA
       rw [HNO.out]
       rfl
      ·unfold qdA
       rw [HNO.out]
       exact fun hl => absurd hl (Nat.lt_irrefl 0)
      ·iterate 8 refine Below.setCell ?_ HC4.out _
       exact HBL.out
     | true =>
      have HNX2 := hid (HNX.out (by simp) (fun _ => rfl) (fun _ => by rw [HTF.out, HTT.out]; exact ⟨rfl, rfl⟩) (fun h => absurd h (by omega)))
      have HF2 := hid (show x7 = (timN ts (kidsK ts k (localN 2)) fromS).1 /\ x8 = (timN ts (kidsK ts k (localN 2)) toS).1 by rw [HTF.out, HTT.out]; exact ⟨rfl, rfl⟩)
      have HSX := hid (HS12.out.times x7 x8)
      obtain ⟨⟨p0, p1, p2, p3, p4, p5, p6, p7⟩, pf0, pf1, pf2, pf3, pf4, pf5, pf6, pf7⟩ := box8 HS12.out.hc
      go_wp2_with fail
      go_roundw
      case rel => exact ⟨3, x7, x8, by go_num, by omega, HNX2.out, fun _ => HF2.out, HSX.out⟩
      case measure => (simp [intOf]; try omega)
    ·have e2 : ((q : Int) == 2) = false := by simp; omega
     have HNX2 := hid (HNX.out (by simp) (fun _ => rfl) (fun h => absurd h hq2) (fun h => absurd h hq4))
     go_wp2_with fail
     go_roundw
     case rel => exact ⟨q + 1, fr, ti, by go_num, by omega, HNX2.out, fun h => HF.out (by omega), HS9.out⟩
     case measure => (simp [intOf]; try omega)
   ·rw [hL] at HO13 HBD hlk
    have HQF := hid (HBD.out (.inl (by simp)))
    obtain ⟨a13, c13, hv13, _⟩ := own64 HO13.out
    obtain ⟨m, hm⟩ : ∃ m, (j :: j2 :: l2).length = m := ⟨_, rfl⟩
    have hm2 : decide ((1 : Int) < (m : Int)) = true := by rw [<- hm]; simp; omega
    rw [hm] at hv13 hlk
    subst hv13
    clear hm hL
    obtain ⟨⟨y0, y1, y2, y3, y4, y5, y6, y7⟩, yf0, yf1, yf2, yf3, yf4, yf5, yf6, yf7⟩ := box8 HS1.out.h4
    obtain ⟨⟨z0, z1, z2, z3, z4, z5, z6, z7⟩, zf0, zf1, zf2, zf3, zf4, zf5, zf6, zf7⟩ := box8 HS1.out.h6
    have HC4 := hid (HS1.out.c4)
    have HBL := hid (HS1.out.bel)
    have HNO := hid (HQF.out)
    go_wp2_with fail
    refine bodyPost_ret (v := .tuple #[.agg #[.string ⟨#[]⟩, .string ⟨#[]⟩, .string ⟨#[]⟩, .int .i64 0, .int .i64 0, .string ⟨#[]⟩, .string ⟨#[]⟩, .slice none 0 0], .bool false]) (by simp [results, Tryz.results40, go_sem, y0, y1, y2, y3, y4, y5, y6, y7, z0, z1, z2, z3, z4, z5, z6, z7]) rfl ⟨none, 0, ?_, ?_, ?_⟩
    ·unfold qdA
     rw [HNO.out]
     rfl
    ·unfold qdA
     rw [HNO.out]
     exact fun hl => absurd hl (Nat.lt_irrefl 0)
    ·iterate 8 refine Below.setCell ?_ HC4.out _
     exact HBL.out
  ·have hqe : q = 5 := by omega
   subst hqe
   obtain ⟨hfr, hti⟩ := HF.out (by omega)
   have hl5 := txtsN_len ts k 5
   obtain ⟨g, c11, cu, hv11, hh11, hat11⟩ := txt_row HS.out.own (by rw [hl5]; omega)
   rw [hl5] at hv11
   have hT : ∀ i (h : i < 5), wr.cell? ⟨g, i, none⟩ = some (.string (fstT ts (kidsK ts k (localN i)))) := fun i h => by
    rw [Lib.cell_of_heap hh11, hat11 i (by rw [hl5]; exact h)]
    congr 2
    unfold txtsN
    simp
   have t0 := hT 0 (by omega)
   have t1 := hT 1 (by omega)
   have t3 := hT 3 (by omega)
   have t4 := hT 4 (by omega)
   have hgb : ¬ g = bc := fun e => HS.out.nc (by rw [hv11, e]; rfl)
   have hbg : ¬ bc = g := fun e => hgb e.symm
   have HX0 := hid (show (qdC ts k).id = idv /\ (qdC ts k).iss = fstT ts (kidsK ts k (localN 0)) /\ (qdC ts k).sub = fstT ts (kidsK ts k (localN 1)) /\ (qdC ts k).frm = fr /\ (qdC ts k).til = ti /\ (qdC ts k).whom = fstT ts (kidsK ts k (localN 3)) /\ (qdC ts k).ans = fstT ts (kidsK ts k (localN 4)) from ⟨HID.out, rfl, rfl, hfr.symm, hti.symm, rfl, rfl⟩)
   generalize fstT ts (kidsK ts k (localN 0)) = T0 at *
   generalize fstT ts (kidsK ts k (localN 1)) = T1 at *
   generalize fstT ts (kidsK ts k (localN 3)) = T3 at *
   generalize fstT ts (kidsK ts k (localN 4)) = T4 at *
   subst hv11
   clear hT hat11 hh11 hl5 hfr hti HF
   obtain ⟨⟨p0, p1, p2, p3, p4, p5, p6, p7⟩, pf0, pf1, pf2, pf3, pf4, pf5, pf6, pf7⟩ := box8 HS.out.hc
   have HFI := hid (fun W hW => HS.out.fin T0 T1 T3 T4 (W := W) hW)
   go_wp2_with fail
   obtain ⟨W, hW⟩ : ∃ W, (((wr.setCell ⟨bc, 1, none⟩ (.string T0)).setCell ⟨bc, 2, none⟩ (.string T1)).setCell ⟨bc, 5, none⟩ (.string T3)).setCell ⟨bc, 6, none⟩ (.string T4) = W := ⟨_, rfl⟩
   simp only [hW]
   obtain ⟨fb, f4, f6, fc⟩ := HFI.out W hW
   have CK2 := hid (CKI.out (localN 5) W fb)
   have HFB := hid (And.intro fb (And.intro f4 (And.intro f6 fc)))
   clear hW HFI fb f4 f6 fc t0 t1 t3 t4 p0 p1 p2 p3 p4 p5 p6 p7 pf0 pf1 pf2 pf3 pf4 pf5 pf6 pf7
   refine CK2.out.mono ?_
   rintro e w3 ⟨v23, rfl, ho23, hb23⟩
   obtain ⟨fb, f4, f6, fc⟩ := HFB.out
   have hbcW := lt_of_heap fc
   have hlk5 := kidsK_len ts k (localN 5)
   have HLT5 := hid (fun j (h : j ∈ kidsK ts k (localN 5)) => show j < n from by rw [<- HNN.out]; exact kidsK_lt h)
   have HFC := hid (qdC_parts ts k)
   have HDQ := hid (fun (h2 : ∀ j ∈ kidsK ts k (localN 5), hasNm ts j = true) (h3 : claimB (qdC ts k) = true) => HQT.out (HDP.out HQ.out h2 h3))
   have HDM := hid (fun (j : Nat) (h : j ∈ kidsK ts k (localN 5)) (h2 : hasNm ts j = false) => HDN.out (fun hd => by rw [hd.2.2.2.2.2.2.2.2.1 j h] at h2; cases h2))
   have HDC := hid (fun (h2 : claimB (qdC ts k) = false) => HDN.out (fun hd => by rw [hd.2.2.2.2.2.2.2.2.2] at h2; cases h2))
   rw [HNN.out] at hlk5
   generalize kidsK ts k (localN 5) = L at *
   obtain ⟨a23, c23, hv23, hkk⟩ := kid_of ho23 hbcW
   obtain ⟨q1, q2, q3, q4, q5, q6, q7⟩ := HX0.out
   have HST := hid (show FSt w w3 B4 (B4 + 1) bc (qdC ts k) (.slice none 0 0) [] a23 L from ⟨bb fb hb23, blk_below f4 hb23, blk_below f6 hb23, by rw [q1, q2, q3, q4, q5, q6, q7]; exact blk_below fc hb23, World.ownsRow_nil _ _ _ _, hkk _ (fun g _ e => by cases e), (fun e => by cases e), (fun e => by cases e), (fun e => by cases e), HS.out.c4, HS.out.cc, HS.out.d4, HS.out.d6⟩)
   have HQAX := hid (fun (h : qdB ts k = true) => show qdA ts k = qdC ts k by unfold qdA; rw [h]; rfl)
   obtain ⟨CL, hCL⟩ : ∃ c, qdC ts k = c := ⟨_, rfl⟩
   rw [hCL] at HST HCZ HFC HDQ HDC HQAX
   clear hCL
   obtain ⟨m, hm⟩ : ∃ m, L.length = m := ⟨_, rfl⟩
   have HM := hid hm
   rw [hm] at hv23 hlk5
   subst hv23
   have HCC := hid HS.out.cc
   obtain ⟨i1, hi1, hy0, hy1, hy2⟩ := info_parts infoQA
   have HJ := hid (And.intro hi1 (And.intro hy0 (And.intro hy1 hy2)))
   clear hi1 hy0 hy1 hy2 hm hkk ho23 hb23 fb f4 f6 fc hbcW HFB HX0 q1 q2 q3 q4 q5 q6 q7 HS CK2 HDN HDP HQT HQ HI HID hgb hbg CKI
   go_wp2_with fail
   go_loopw [24] (fun x wr => ∃ (i : Nat) (v : Value), x = .int .i64 (i : Int) /\ i <= m /\ Hid (FSt w wr B4 (B4 + 1) bc (CL) v (facN ts (L.take i)) a23 L) /\ Hid (∀ j ∈ L.take i, hasNm ts j = true)) (fun x _ => m - (intOf x).toNat)
   case atStart => exact ⟨0, _, rfl, Nat.zero_le _, by rw [List.take_zero]; exact HST.out, fun j hj => by rw [List.take_zero] at hj; cases hj⟩
   case round =>
    clear HST
    obtain ⟨i, v, rfl, him, HS, HNM⟩ := hrel
    by_cases hlt : i < m
    ·have his : i < L.length := by rw [HM.out]; exact hlt
     have hii : (i : Int) < (m : Int) := by omega
     obtain ⟨gl, cul, ea, hhl, hnl, hgb, hcl⟩ := HS.out.kd (by omega)
     subst ea
     have d0 : wr.cell? ⟨gl, i, none⟩ = some (.int .i64 ((L[i] : Nat) : Int)) := by rw [Lib.cell_of_heap hhl]; exact hcl i his
     have HFN := hid (facN_next (ts := ts) his)
     have HMJ := hid (List.getElem_mem his)
     have HTS := hid (List.take_succ_eq_append_getElem his)
     have HFL := hid (show (facN ts (L.take i)).length <= i by unfold facN; rw [List.length_map]; exact List.length_take_le _ _)
     obtain ⟨j, hj⟩ : ∃ j, L[i] = j := ⟨_, rfl⟩
     rw [hj] at d0 HFN HMJ HTS
     have HIS := hid his
     have HJI := hid (fun (h : i < L.length) => show L[i] = j from hj)
     have HKC := hid (fun (W : World) (v1 : Value) (h : KidK W v1 bc (some ⟨gl, 0, none⟩) L) => show W.cell? ⟨gl, i, none⟩ = some (.int .i64 (j : Int)) from by
      obtain ⟨g', cu', e', h1, _, _, h4⟩ := h (by omega)
      cases e'
      rw [Lib.cell_of_heap h1, h4 i his, hj])
     have HKD := hid (fun (W : World) (f1 : List At) (v9 : Value) (w9 : World) (h : FSt w W B4 (B4 + 1) bc (CL) v f1 (some ⟨gl, 0, none⟩) L) (hg : W.grownBy w9 v.ownBlock) => show w9.cell? ⟨gl, i, none⟩ = some (.int .i64 (j : Int)) from by
      obtain ⟨g', cu', e', h1, h2, _, h4⟩ := h.kd (by omega)
      cases e'
      rw [Lib.cell_of_heap ((hg.block gl (lt_of_heap h1) (fun e => h2 e.symm)).trans h1), h4 i his, hj])
     have hjn := HLT5.out j HMJ.out
     have hji : (j : Int) < (n : Int) := by omega
     obtain ⟨b5, o5, aa5, na5, ca5, e5, x5, hc5⟩ := CVN.out j hjn nameS (by decide) wr HS.out.bel
     cases e5
     have CV5 := hid (hc5 wr (Below.refl _ _))
     rw [show (valF (atN ts j) nameS).isSome = hasNm ts j from rfl] at CV5
     have CT0 := hid (fun wx (h : Below w.heap.size w wx) => CTX.out j hjn wx h)
     rw [show joinT ts (kidsN ts j) = txN ts j from rfl] at CT0
     generalize valN ts j nameS = NV at *
     generalize txN ts j = TX at *
     clear hc5 hj hhl hnl hcl his
     go_wp2_with fail
     refine CV5.out.mono ?_
     rintro e w10 ⟨rfl, hw10⟩
     subst hw10
     clear CV5 x5
     cases hHN : hasNm ts j with
     | false =>
      have HQF := hid (HDM.out j HMJ.out hHN)
      clear hHN
      obtain ⟨⟨y0, y1, y2, y3, y4, y5, y6, y7⟩, yf0, yf1, yf2, yf3, yf4, yf5, yf6, yf7⟩ := box8 HS.out.h4
      obtain ⟨⟨z0, z1, z2, z3, z4, z5, z6, z7⟩, zf0, zf1, zf2, zf3, zf4, zf5, zf6, zf7⟩ := box8 HS.out.h6
      have HC4 := hid (HS.out.c4)
      have HBL := hid (HS.out.bel)
      have HNO := hid (HQF.out)
      go_wp2_with fail
      refine bodyPost_ret (v := .tuple #[.agg #[.string ⟨#[]⟩, .string ⟨#[]⟩, .string ⟨#[]⟩, .int .i64 0, .int .i64 0, .string ⟨#[]⟩, .string ⟨#[]⟩, .slice none 0 0], .bool false]) (by simp [results, Tryz.results40, go_sem, y0, y1, y2, y3, y4, y5, y6, y7, z0, z1, z2, z3, z4, z5, z6, z7]) rfl ⟨none, 0, ?_, ?_, ?_⟩
      ·unfold qdA
       rw [HNO.out]
       rfl
      ·unfold qdA
       rw [HNO.out]
       exact fun hl => absurd hl (Nat.lt_irrefl 0)
      ·iterate 8 refine Below.setCell ?_ HC4.out _
       exact HBL.out
     | true =>
      have HNM2 := hid (show ∀ j' ∈ L.take (i + 1), hasNm ts j' = true from fun j' h => by
       rw [HTS.out] at h
       rcases List.mem_append.1 h with h' | h'
       ·exact HNM.out j' h'
       ·rw [List.mem_singleton] at h'
        subst h'
        exact hHN)
      clear hHN
      have HSx := hid (HS.out.below ((Below.refl w10.heap.size w10).drew))
      have CT1 := hid (fun (wx : World) (h : FSt w wx B4 (B4 + 1) bc (CL) v (facN ts (L.take i)) (some ⟨gl, 0, none⟩) L) => (show Calls Tryz.prog 95 #[.slice (some ⟨tb, tp, none⟩) n cap, .int .i64 (j : Int)] wx fun r w' => r = .returned (.string TX) /\ FSt w w' B4 (B4 + 1) bc (CL) v (facN ts (L.take i)) (some ⟨gl, 0, none⟩) L /\ w'.cell? ⟨bc, 7, none⟩ = some v /\ (∀ o, (w'.alloc o).cell? ⟨bc, 7, none⟩ = some v) by
       refine (CT0.out wx h.bel).mono ?_
       rintro r w7 ⟨rfl, hb7⟩
       have h7 := h.below hb7
       have c7 : w7.cell? ⟨bc, 7, none⟩ = some v := by rw [Lib.cell_of_heap h7.hc]; rfl
       exact ⟨rfl, h7, c7, fun o => ((Below.refl w7.heap.size w7).alloc (Nat.le_refl _) o).cell (p := ⟨bc, 7, none⟩) (lt_of_heap h7.hc) |>.trans c7⟩))
      have c7 : w10.cell? ⟨bc, 7, none⟩ = some v := by rw [Lib.cell_of_heap HS.out.hc]; rfl
      have H3 := hid (show (facN ts (L.take i)).length + 1 <= maxLen by have := HFL.out; unfold maxLen; omega)
      have H4 := hid (show ((facN ts (L.take i)).length + 1) * 32 <= 140737488355328 by have := HFL.out; omega)
      clear CT0
      go_wp2_with fail
      have KS := hid (fun (W : World) (v1 : Value) (f1 : List At) (h : FSt w W B4 (B4 + 1) bc (CL) v1 f1 (some ⟨gl, 0, none⟩) L) => show W.cell? ⟨gl, i, none⟩ = some (.int .i64 (j : Int)) from HKC.out W v1 h.kd)
      clear HCZ HFC HDQ HDM HDC HNM CVN CTX HLT5 HM HTS HMJ HFL
      go_region_law (first
       | (refine step_app_at rfl (.tmp 192) (.tmp 201) 24 rfl w.heap.size 40 i1 _ 2 32 Tryz.underlying24 HJ.out.1 HJ.out.2.1 HJ.out.2.2.1 HJ.out.2.2.2 rfl (by decide) v (facN ts (L.take i)).length (qaC (facN ts (L.take i))) (by simp [Act.eval, Act.put]) (HSx.out.own.alloc (.cells #[.string NV, .string TX] 40)) ⟨W2.heap.size, 0, none⟩ 1 1 [.string NV, .string TX] (by simp [Act.eval, Act.put]) rfl (q_two_cells _ _ _ _) (q_two_one _ _) H3.out H4.out (by have := HSx.out.bel.size; rw [World.size_alloc]; omega) ?_; intro v9 w9 hown9 hgrow9 hat9; obtain ⟨a9, c9, hv9, hF9, ⟨z7, zf7⟩, hk9, hk8⟩ := FSt.app (HSx.out.below ((Below.refl W2.heap.size W2).alloc (Nat.le_refl _) (.cells #[.string NV, .string TX] 40))) hown9 hgrow9 hat9 i HIS.out; rw [HJI.out HIS.out] at hk9 hk8; have HF9 := hid hF9; have HK9 := hid hk9; have HK8 := hid hk8; clear hown9 hgrow9 hat9 hF9 hk9 hk8; subst hv9)
       | (go_simp; go_at_call 95; refine (CT1.out _ HSx.out).mono ?_; rintro r W2 ⟨rfl, hS7, cB, cC⟩; replace HSx := hid hS7; clear hS7))
      all_goals
       rw [<- HFN.out] at HF9
       go_wp2_with fail
       go_roundw
       case rel => exact ⟨i + 1, _, by go_num, by omega, HF9.out, HNM2.out⟩
       case measure => (simp [intOf]; try omega)
    ·have hie : i = m := by omega
     subst hie
     have HLL := hid (show L.take i = L from List.take_of_length_le (by rw [HM.out]; exact Nat.le_refl _))
     rw [HLL.out] at HS HNM
     obtain ⟨av, cv, hv, hoa⟩ := qa_own HS.out.own
     rw [<- HFC.out] at hv hoa
     have HOA := hid hoa
     have CO := hid (cClaimOkS (CL) av cv wr hoa.rd HCZ.out)
     unfold cmV at CO
     subst hv
     have HBW := hid HS.out.bel
     have HB8 := hid (box8 HS.out.hc)
     have HB9 := hid (fun w' (h : Below wr.heap.size wr w') => box8 (HS.out.below h).hc)
     have HBY := hid (fun w' (h : Below wr.heap.size wr w') => box8 (HS.out.below h).h4)
     have HBX := hid (fun w' (h : Below wr.heap.size wr w') => HS.out.below h)
     obtain ⟨⟨p0, p1, p2, p3, p4, p5, p6, p7⟩, pf0, pf1, pf2, pf3, pf4, pf5, pf6, pf7⟩ := HB8.out
     clear hoa HB8 CVN CTX HLT5 HLL HJ HCC
     go_wp2_with fail
     refine CO.out.mono ?_
     rintro e w5 ⟨rfl, hb5⟩
     have HS5 := hid (HBX.out w5 hb5)
     have HO5 := hid (OwnAts.below HOA.out hb5)
     obtain ⟨⟨r0, r1, r2, r3, r4, r5, r6, r7⟩, rf0, rf1, rf2, rf3, rf4, rf5, rf6, rf7⟩ := HB9.out w5 hb5
     clear hb5 CO p0 p1 p2 p3 p4 p5 p6 p7 pf0 pf1 pf2 pf3 pf4 pf5 pf6 pf7
     cases hCB : claimB (CL) with
     | false =>
      have HQF := hid (HDC.out hCB)
      clear hCB
      obtain ⟨⟨y0, y1, y2, y3, y4, y5, y6, y7⟩, yf0, yf1, yf2, yf3, yf4, yf5, yf6, yf7⟩ := box8 HS5.out.h4
      obtain ⟨⟨z0, z1, z2, z3, z4, z5, z6, z7⟩, zf0, zf1, zf2, zf3, zf4, zf5, zf6, zf7⟩ := box8 HS5.out.h6
      have HC4 := hid (HS5.out.c4)
      have HBL := hid (HS5.out.bel)
      have HNO := hid (HQF.out)
      go_wp2_with fail
      refine bodyPost_ret (v := .tuple #[.agg #[.string ⟨#[]⟩, .string ⟨#[]⟩, .string ⟨#[]⟩, .int .i64 0, .int .i64 0, .string ⟨#[]⟩, .string ⟨#[]⟩, .slice none 0 0], .bool false]) (by simp [results, Tryz.results40, go_sem, y0, y1, y2, y3, y4, y5, y6, y7, z0, z1, z2, z3, z4, z5, z6, z7]) rfl ⟨none, 0, ?_, ?_, ?_⟩
      ·unfold qdA
       rw [HNO.out]
       rfl
      ·unfold qdA
       rw [HNO.out]
       exact fun hl => absurd hl (Nat.lt_irrefl 0)
      ·iterate 8 refine Below.setCell ?_ HC4.out _
       exact HBL.out
     | true =>
      have HQ1 := hid (HDQ.out HNM.out hCB)
      have HQA := hid (HQAX.out HQ1.out)
      clear hCB
      obtain ⟨⟨y0, y1, y2, y3, y4, y5, y6, y7⟩, yf0, yf1, yf2, yf3, yf4, yf5, yf6, yf7⟩ := box8 HS5.out.h4
      have hne1 : ¬ bc = B4 := HS5.out.d4
      have hne2 : ¬ B4 = bc := fun e => hne1 e.symm
      go_wp2_with fail
      refine bodyPost_ret (v := .tuple #[cmV (CL) av cv, .bool true]) (by simp [results, Tryz.results40, go_sem, cmV, y0, y1, y2, y3, y4, y5, y6, y7]) rfl ⟨av, cv, by rw [HQA.out, HQ1.out], ?_, ?_⟩
      ·rw [HQA.out]
       have hset : ∀ (W : World) (i : Nat) (u : Value), OwnAts W w.heap.size av CL.facts -> OwnAts (W.setCell ⟨B4, i, none⟩ u) w.heap.size av CL.facts := fun W i u h => OwnAts.set4 h (fun g o e hl eg => HS5.out.n4 (by rw [e, eg]; rfl))
       iterate 8 refine hset _ _ _ ?_
       exact HO5.out
      ·have hc4 := HS5.out.c4
       iterate 8 refine Below.setCell ?_ hc4 _
       exact HS5.out.bel

end Go.Proofs.YtlpbbkaelbafdaaGreatDoor

namespace Go.Proofs.YtlpbbkaelbafdaaGreatDoor
open Go.RowKit

theorem qdI_no {ts : List Tk} {x : Int} (h : ¬ (namesB ts = true /\ idsB ts = true /\ 0 <= x /\ x < ts.length)) : qdI ts x = false := by
 unfold qdI
 cases h1 : namesB ts
 ·rfl
 ·cases h2 : idsB ts
  ·rfl
  ·rw [decide_eq_false (fun h3 => h ⟨h1, h2, h3⟩)]
   rfl

theorem qdI_yes {ts : List Tk} {k : Nat} (h1 : namesB ts = true) (h2 : idsB ts = true) (h3 : k < ts.length) : qdI ts (k : Int) = qdB ts k /\ qdV ts (k : Int) = qdA ts k := by
 have e : qdI ts (k : Int) = qdB ts k := by
  unfold qdI
  rw [h1, h2, decide_eq_true (show (0 : Int) <= (k : Int) /\ (k : Int) < ts.length by omega)]
  rfl
 refine ⟨e, ?_⟩
 unfold qdV qdA
 rw [e]
 rfl

set_option maxRecDepth 8000 in
set_option maxHeartbeats 8000000 in
theorem cDecodedS (a : Option Addr) (cap : Nat) (ts : List Tk) (x : Int) (w : World) (hR : TkRow w a ts) (hn : ts.length <= 1048576) (hz : TksSz 1048576 ts) :
  Calls Tryz.prog 9 #[.slice a ts.length cap, .int .i64 x] w (DecAns w (qdV ts x) (qdI ts x)) := by
 have CN := hid (fun wx (h : Below w.heap.size w wx) => cNamesOkS a cap ts wx (hR.below h) hn hz)
 have CI := hid (fun wx (h : Below w.heap.size w wx) => cIdsOkS a cap ts wx (hR.below h) hn hz)
 have HB0 := hid ((Below.refl w.heap.size w).alloc (Nat.le_refl _) (.cells #[.string ⟨#[]⟩, .string ⟨#[]⟩, .string ⟨#[]⟩, .int .i64 0, .int .i64 0, .string ⟨#[]⟩, .string ⟨#[]⟩, .slice none 0 0] 26))
 have M4 := hid (heap_alloc_new w (.cells #[.string ⟨#[]⟩, .string ⟨#[]⟩, .string ⟨#[]⟩, .int .i64 0, .int .i64 0, .string ⟨#[]⟩, .string ⟨#[]⟩, .slice none 0 0] 26))
 have HNX := hid (@qdI_no ts x)
 have HR := hid hR
 have HZ := hid hz
 cases h1 : namesB ts with
 | false =>
  have HNO := hid (HNX.out (by rw [h1]; exact fun h => by cases h.1))
  rw [h1] at CN
  clear h1 hR hz
  generalize ts.length = n at *
  go_enter Tryz.func9, Tryz.ntmps9
  go_wp2_with fail
  refine (CN.out _ HB0.out).mono ?_
  rintro e w1 ⟨rfl, hb1⟩
  have BB := hid (bb HB0.out hb1)
  have MM := hid (blk_below M4.out hb1)
  clear hb1
  obtain ⟨⟨y0, y1, y2, y3, y4, y5, y6, y7⟩, yf0, yf1, yf2, yf3, yf4, yf5, yf6, yf7⟩ := box8 MM.out
  go_wp2_with fail
  refine bodyPost_ret (v := .tuple #[.agg #[.string ⟨#[]⟩, .string ⟨#[]⟩, .string ⟨#[]⟩, .int .i64 0, .int .i64 0, .string ⟨#[]⟩, .string ⟨#[]⟩, .slice none 0 0], .bool false]) (by simp [results, Tryz.results9, go_sem, y0, y1, y2, y3, y4, y5, y6, y7]) rfl ⟨none, 0, ?_, ?_, ?_⟩
  ·unfold qdV
   rw [HNO.out]
   rfl
  ·unfold qdV
   rw [HNO.out]
   exact fun hl => absurd hl (Nat.lt_irrefl 0)
  ·iterate 8 refine Below.setCell ?_ (show w.heap.size <= w.heap.size from Nat.le_refl _) _
   exact BB.out
 | true =>
 have HN1 := hid h1
 rw [h1] at CN
 cases h2 : idsB ts with
 | false =>
  have HNO := hid (HNX.out (by rw [h2]; exact fun h => by cases h.2.1))
  rw [h2] at CI
  clear h1 h2 hR hz
  generalize ts.length = n at *
  go_enter Tryz.func9, Tryz.ntmps9
  go_wp2_with fail
  refine (CN.out _ HB0.out).mono ?_
  rintro e w1 ⟨rfl, hb1⟩
  have HB1 := hid (bb HB0.out hb1)
  have M1 := hid (blk_below M4.out hb1)
  clear hb1
  go_wp2_with fail
  refine (CI.out _ HB1.out).mono ?_
  rintro e w2 ⟨rfl, hb2⟩
  have BB := hid (bb HB1.out hb2)
  have MM := hid (blk_below M1.out hb2)
  clear hb2
  obtain ⟨⟨y0, y1, y2, y3, y4, y5, y6, y7⟩, yf0, yf1, yf2, yf3, yf4, yf5, yf6, yf7⟩ := box8 MM.out
  go_wp2_with fail
  refine bodyPost_ret (v := .tuple #[.agg #[.string ⟨#[]⟩, .string ⟨#[]⟩, .string ⟨#[]⟩, .int .i64 0, .int .i64 0, .string ⟨#[]⟩, .string ⟨#[]⟩, .slice none 0 0], .bool false]) (by simp [results, Tryz.results9, go_sem, y0, y1, y2, y3, y4, y5, y6, y7]) rfl ⟨none, 0, ?_, ?_, ?_⟩
  ·unfold qdV
   rw [HNO.out]
   rfl
  ·unfold qdV
   rw [HNO.out]
   exact fun hl => absurd hl (Nat.lt_irrefl 0)
  ·iterate 8 refine Below.setCell ?_ (show w.heap.size <= w.heap.size from Nat.le_refl _) _
   exact BB.out
 | true =>
 have HI1 := hid h2
 rw [h2] at CI
 clear h1 h2
 by_cases hx0 : x < 0
 ·have HNO := hid (HNX.out (fun h => by omega))
  have hd0 : decide (x < 0) = true := decide_eq_true hx0
  clear hR hz
  generalize ts.length = n at *
  go_enter Tryz.func9, Tryz.ntmps9
  go_wp2_with fail
  refine (CN.out _ HB0.out).mono ?_
  rintro e w1 ⟨rfl, hb1⟩
  have HB1 := hid (bb HB0.out hb1)
  have M1 := hid (blk_below M4.out hb1)
  clear hb1
  go_wp2_with fail
  refine (CI.out _ HB1.out).mono ?_
  rintro e w2 ⟨rfl, hb2⟩
  have BB := hid (bb HB1.out hb2)
  have MM := hid (blk_below M1.out hb2)
  clear hb2
  obtain ⟨⟨y0, y1, y2, y3, y4, y5, y6, y7⟩, yf0, yf1, yf2, yf3, yf4, yf5, yf6, yf7⟩ := box8 MM.out
  go_wp2_with fail
  refine bodyPost_ret (v := .tuple #[.agg #[.string ⟨#[]⟩, .string ⟨#[]⟩, .string ⟨#[]⟩, .int .i64 0, .int .i64 0, .string ⟨#[]⟩, .string ⟨#[]⟩, .slice none 0 0], .bool false]) (by simp [results, Tryz.results9, go_sem, y0, y1, y2, y3, y4, y5, y6, y7]) rfl ⟨none, 0, ?_, ?_, ?_⟩
  ·unfold qdV
   rw [HNO.out]
   rfl
  ·unfold qdV
   rw [HNO.out]
   exact fun hl => absurd hl (Nat.lt_irrefl 0)
  ·iterate 8 refine Below.setCell ?_ (show w.heap.size <= w.heap.size from Nat.le_refl _) _
   exact BB.out
 obtain ⟨k, rfl⟩ : ∃ k : Nat, x = k := ⟨x.toNat, by omega⟩
 have hd0 : decide ((k : Int) < 0) = false := by simp
 by_cases hk : k < ts.length
 case neg =>
  have HNO := hid (HNX.out (fun h => by omega))
  have hd1 : decide ((ts.length : Int) <= (k : Int)) = true := by simp; omega
  have hd2 : decide (ts.length <= k) = true := decide_eq_true (by omega)
  clear hR hz hk
  generalize ts.length = n at *
  go_enter Tryz.func9, Tryz.ntmps9
  go_wp2_with fail
  refine (CN.out _ HB0.out).mono ?_
  rintro e w1 ⟨rfl, hb1⟩
  have HB1 := hid (bb HB0.out hb1)
  have M1 := hid (blk_below M4.out hb1)
  clear hb1
  go_wp2_with fail
  refine (CI.out _ HB1.out).mono ?_
  rintro e w2 ⟨rfl, hb2⟩
  have BB := hid (bb HB1.out hb2)
  have MM := hid (blk_below M1.out hb2)
  clear hb2
  obtain ⟨⟨y0, y1, y2, y3, y4, y5, y6, y7⟩, yf0, yf1, yf2, yf3, yf4, yf5, yf6, yf7⟩ := box8 MM.out
  go_wp2_with fail
  refine bodyPost_ret (v := .tuple #[.agg #[.string ⟨#[]⟩, .string ⟨#[]⟩, .string ⟨#[]⟩, .int .i64 0, .int .i64 0, .string ⟨#[]⟩, .string ⟨#[]⟩, .slice none 0 0], .bool false]) (by simp [results, Tryz.results9, go_sem, y0, y1, y2, y3, y4, y5, y6, y7]) rfl ⟨none, 0, ?_, ?_, ?_⟩
  ·unfold qdV
   rw [HNO.out]
   rfl
  ·unfold qdV
   rw [HNO.out]
   exact fun hl => absurd hl (Nat.lt_irrefl 0)
  ·iterate 8 refine Below.setCell ?_ (show w.heap.size <= w.heap.size from Nat.le_refl _) _
   exact BB.out
 have hd1 : decide ((ts.length : Int) <= (k : Int)) = false := by simp; omega
 have hd2 : decide (ts.length <= k) = false := decide_eq_false (by omega)
 obtain ⟨e1, e2⟩ := qdI_yes HN1.out HI1.out hk
 rw [e1, e2]
 have CD := hid (fun wx (h : Below w.heap.size w wx) => c_spec_l14Decoded a cap ts k wx (hR.below h) (by have h := (idsB_t HI1.out).2; unfold treeB at h; simpa using h) hk hn hz)
 clear hR hz hk e1 e2
 generalize ts.length = n at *
 generalize qdA ts k = QA at *
 generalize qdB ts k = QB at *
 go_enter Tryz.func9, Tryz.ntmps9
 go_wp2_with fail
 refine (CN.out _ HB0.out).mono ?_
 rintro e w1 ⟨rfl, hb1⟩
 have HB1 := hid (bb HB0.out hb1)
 have M1 := hid (blk_below M4.out hb1)
 clear hb1
 go_wp2_with fail
 refine (CI.out _ HB1.out).mono ?_
 rintro e w2 ⟨rfl, hb2⟩
 have HB2 := hid (bb HB1.out hb2)
 have M2 := hid (blk_below M1.out hb2)
 clear hb2
 go_wp2_with fail
 refine (CD.out _ HB2.out).mono ?_
 rintro e w3 ⟨a3, c3, rfl, ho3, hb3⟩
 have HB3 := hid (bb HB2.out hb3)
 have HO3 := hid ho3
 have HG2 := hid (show w.heap.size < w2.heap.size from lt_of_heap M2.out)
 obtain ⟨⟨y0, y1, y2, y3, y4, y5, y6, y7⟩, yf0, yf1, yf2, yf3, yf4, yf5, yf6, yf7⟩ := box8 (blk_below M2.out hb3)
 clear ho3 hb3
 unfold cmV
 go_wp2_with fail
 refine bodyPost_ret (v := .tuple #[cmV QA a3 c3, .bool QB]) (by simp [results, Tryz.results9, go_sem, cmV, y0, y1, y2, y3, y4, y5, y6, y7]) rfl ⟨a3, c3, rfl, ?_, ?_⟩
 ·have hset : ∀ (W : World) (i : Nat) (u : Value), OwnAts W w2.heap.size a3 QA.facts -> OwnAts (W.setCell ⟨w.heap.size, i, none⟩ u) w2.heap.size a3 QA.facts := fun W i u h => OwnAts.set4 h (fun g o e hl eg => by
   obtain ⟨g', o', cu', k1, k2, _⟩ := h hl
   rw [e] at k1
   cases k1
   have := HG2.out
   omega)
  refine own_lift (B' := w2.heap.size) ?_ HB2.out.size
  iterate 8 refine hset _ _ _ ?_
  exact HO3.out
 ·iterate 8 refine Below.setCell ?_ (show w.heap.size <= w.heap.size from Nat.le_refl _) _
  exact HB3.out

end Go.Proofs.YtlpbbkaelbafdaaGreatDoor

namespace Go.Proofs.YtlpbbkaelbafdaaGreatDoor
open Go.RowKit

noncomputable def decC (ts : List Tk) (k : Nat) : Nat -> Cm
 | 0 => ⟨(valF (atN ts k) idS).getD ByteArray.empty, ⟨#[]⟩, ⟨#[]⟩, 0, 0, ⟨#[]⟩, ⟨#[]⟩, []⟩
 | q + 1 => (sayL ts (kidsK ts k (localN q))).foldl (hearC q) (decC ts k q)

theorem decC_succ (ts : List Tk) (k q : Nat) : decC ts k (q + 1) = (sayL ts (kidsK ts k (localN q))).foldl (hearC q) (decC ts k q) := rfl

theorem decC_zero (ts : List Tk) (k : Nat) : decC ts k 0 = ⟨(valF (atN ts k) idS).getD ByteArray.empty, ⟨#[]⟩, ⟨#[]⟩, 0, 0, ⟨#[]⟩, ⟨#[]⟩, []⟩ := rfl

noncomputable def decX (ts : List Tk) (k q : Nat) : Bool := allB q (leN q) (moN q) (sayL ts (kidsK ts k (localN q)))

theorem fold5 (l : List Say) (c : Cm) : l.foldl (hearC 5) c = { c with facts := c.facts ++ l.map (fun s => ⟨(valF s.attrs nameS).getD ByteArray.empty, s.text⟩) } := by
 induction l generalizing c with
 | nil => simp
 | cons s l ih =>
  rw [List.foldl_cons, ih]
  show _ = _
  unfold hearC
  simp

theorem sayL_one (ts : List Tk) (j : Nat) : sayL ts [j] = [⟨atN ts j, txN ts j⟩] := rfl

theorem dec_fac (ts : List Tk) (l : List Nat) : (sayL ts l).map (fun s => (⟨(valF s.attrs nameS).getD ByteArray.empty, s.text⟩ : At)) = facN ts l := by
 unfold sayL facN
 rw [List.map_map]
 rfl

theorem hc0 (a b c : ByteArray) (d e : Int) (f g : ByteArray) (h : List At) (s : Say) : hearC 0 ⟨a, b, c, d, e, f, g, h⟩ s = ⟨a, s.text, c, d, e, f, g, h⟩ := rfl
theorem hc1 (a b c : ByteArray) (d e : Int) (f g : ByteArray) (h : List At) (s : Say) : hearC 1 ⟨a, b, c, d, e, f, g, h⟩ s = ⟨a, b, s.text, d, e, f, g, h⟩ := rfl
theorem hc2 (a b c : ByteArray) (d e : Int) (f g : ByteArray) (h : List At) (s : Say) : hearC 2 ⟨a, b, c, d, e, f, g, h⟩ s = ⟨a, b, c, (hearT s fromS).1, (hearT s toS).1, f, g, h⟩ := rfl
theorem hc3 (a b c : ByteArray) (d e : Int) (f g : ByteArray) (h : List At) (s : Say) : hearC 3 ⟨a, b, c, d, e, f, g, h⟩ s = ⟨a, b, c, d, e, s.text, g, h⟩ := rfl
theorem hc4 (a b c : ByteArray) (d e : Int) (f g : ByteArray) (h : List At) (s : Say) : hearC 4 ⟨a, b, c, d, e, f, g, h⟩ s = ⟨a, b, c, d, e, f, s.text, h⟩ := rfl

theorem tim1 (ts : List Tk) (j : Nat) (nm : ByteArray) : timN ts [j] nm = hearT (sayN ts j) nm := by
 have e : valN ts j nm = (valF (sayN ts j).attrs nm).getD ByteArray.empty := rfl
 show timeOf (valN ts j nm).data.toList = timeOf ((valF (sayN ts j).attrs nm).getD ByteArray.empty).data.toList
 rw [e]

theorem dc0 {ts : List Tk} {k j : Nat} (e0 : kidsK ts k (localN 0) = [j]) : decC ts k 1 = ⟨(valF (atN ts k) idS).getD ByteArray.empty, txN ts j, ⟨#[]⟩, 0, 0, ⟨#[]⟩, ⟨#[]⟩, []⟩ := by
 rw [show decC ts k 1 = _ from decC_succ ts k 0, e0, sayL_one, List.foldl_cons, List.foldl_nil, decC_zero, hc0]

theorem dc1 {ts : List Tk} {k j : Nat} (e0 : kidsK ts k (localN 1) = [j]) {a b c : ByteArray} {d e : Int} {f g : ByteArray} {h : List At} (H : decC ts k 1 = ⟨a, b, c, d, e, f, g, h⟩) : decC ts k 2 = ⟨a, b, txN ts j, d, e, f, g, h⟩ := by
 rw [show decC ts k 2 = _ from decC_succ ts k 1, e0, sayL_one, H, List.foldl_cons, List.foldl_nil, hc1]

theorem dc2 {ts : List Tk} {k j : Nat} (e0 : kidsK ts k (localN 2) = [j]) {a b c : ByteArray} {d e : Int} {f g : ByteArray} {h : List At} (H : decC ts k 2 = ⟨a, b, c, d, e, f, g, h⟩) : decC ts k 3 = ⟨a, b, c, (hearT (sayN ts j) fromS).1, (hearT (sayN ts j) toS).1, f, g, h⟩ := by
 rw [show decC ts k 3 = _ from decC_succ ts k 2, e0, show sayL ts [j] = [sayN ts j] from rfl, H, List.foldl_cons, List.foldl_nil, hc2]

theorem dc3 {ts : List Tk} {k j : Nat} (e0 : kidsK ts k (localN 3) = [j]) {a b c : ByteArray} {d e : Int} {f g : ByteArray} {h : List At} (H : decC ts k 3 = ⟨a, b, c, d, e, f, g, h⟩) : decC ts k 4 = ⟨a, b, c, d, e, txN ts j, g, h⟩ := by
 rw [show decC ts k 4 = _ from decC_succ ts k 3, e0, sayL_one, H, List.foldl_cons, List.foldl_nil, hc3]

theorem dc4 {ts : List Tk} {k : Nat} (h4 : (kidsK ts k (localN 4)).length <= 1) {a b c : ByteArray} {d e : Int} {f : ByteArray} {h : List At} (H : decC ts k 4 = ⟨a, b, c, d, e, f, ⟨#[]⟩, h⟩) : decC ts k 5 = ⟨a, b, c, d, e, f, fstT ts (kidsK ts k (localN 4)), h⟩ := by
 rw [show decC ts k 5 = _ from decC_succ ts k 4, H]
 match h : kidsK ts k (localN 4), h4 with
 | [], _ => rfl
 | [j], _ => rw [sayL_one, List.foldl_cons, List.foldl_nil, hc4]; rfl

theorem dc5 {ts : List Tk} {k : Nat} {a b c : ByteArray} {d e : Int} {f g : ByteArray} (H : decC ts k 5 = ⟨a, b, c, d, e, f, g, []⟩) : decC ts k 6 = ⟨a, b, c, d, e, f, g, facN ts (kidsK ts k (localN 5))⟩ := by
 rw [show decC ts k 6 = _ from decC_succ ts k 5, fold5, H, dec_fac]
 rfl

theorem decC_is {ts : List Tk} {k : Nat} (h0 : (kidsK ts k (localN 0)).length = 1) (h1 : (kidsK ts k (localN 1)).length = 1) (h2 : (kidsK ts k (localN 2)).length = 1) (h3 : (kidsK ts k (localN 3)).length = 1) (h4 : (kidsK ts k (localN 4)).length <= 1) : decC ts k 6 = qdC ts k := by
 obtain ⟨j0, e0⟩ := List.length_eq_one_iff.1 h0
 obtain ⟨j1, e1⟩ := List.length_eq_one_iff.1 h1
 obtain ⟨j2, e2⟩ := List.length_eq_one_iff.1 h2
 obtain ⟨j3, e3⟩ := List.length_eq_one_iff.1 h3
 rw [dc5 (dc4 h4 (dc3 e3 (dc2 e2 (dc1 e1 (dc0 e0)))))]
 unfold qdC
 rw [e0, e1, e2, e3, tim1, tim1]
 generalize hearT (sayN ts j2) fromS = A
 generalize hearT (sayN ts j2) toS = B
 rfl

theorem decX_parts {ts : List Tk} {k q : Nat} : decX ts k q = true ↔ leN q <= ((kidsK ts k (localN q)).length : Int) /\ ((kidsK ts k (localN q)).length : Int) <= moN q /\ ∀ j ∈ kidsK ts k (localN q), hearB q (sayN ts j) = true := by
 unfold decX allB
 rw [Bool.and_eq_true, Bool.and_eq_true, decide_eq_true_eq, decide_eq_true_eq, sayL_len]
 unfold sayL
 rw [List.all_map, List.all_eq_true]
 exact ⟨fun h => ⟨h.1.1, h.1.2, h.2⟩, fun h => ⟨⟨h.1, h.2.1⟩, h.2.2⟩⟩

theorem tim_hear {ts : List Tk} {l : List Nat} (h : l.length = 1) : ((timN ts l fromS).2 = true /\ (timN ts l toS).2 = true) ↔ ∀ j ∈ l, hearB 2 (sayN ts j) = true := by
 obtain ⟨j, rfl⟩ := List.length_eq_one_iff.1 h
 have e : hearB 2 (sayN ts j) = ((timN ts [j] fromS).2 && (timN ts [j] toS).2) := by rw [tim1, tim1]; rfl
 constructor
 ·intro hh i hi
  rw [List.mem_singleton.1 hi, e, hh.1, hh.2]
  rfl
 ·intro hh
  have := hh j (List.mem_singleton.2 rfl)
  rw [e, Bool.and_eq_true] at this
  exact this

theorem word_ne {s : ByteArray} (h : wordB s = true) : ¬ s.size = 0 := by
 intro e
 unfold wordB at h
 rw [decide_eq_true e] at h
 simp at h

theorem txt_hear {ts : List Tk} {l : List Nat} {q : Nat} (hq : hearB q = fun s => !decide (s.text.size = 0)) (h : l.length <= 1) : (l.length = 1 -> ¬ (fstT ts l).size = 0) ↔ ∀ j ∈ l, hearB q (sayN ts j) = true := by
 rw [hq]
 match l, h with
 | [], _ => exact ⟨fun _ j hj => absurd hj List.not_mem_nil, fun _ hh => by cases hh⟩
 | [j], _ =>
  have e : (fstT ts [j]) = (sayN ts j).text := rfl
  rw [e]
  constructor
  ·intro hh i hi
   rw [List.mem_singleton.1 hi]
   simp [hh rfl]
  ·intro hh _
   have := hh j (List.mem_singleton.2 rfl)
   simpa using this

theorem claim_parts {c : Cm} (h : claimB c = true) : idOk c.id = true /\ wordB c.iss = true /\ wordB c.sub = true /\ wordB c.whom = true /\ c.facts.length <= 4 := by
 unfold claimB at h
 simp only [Bool.and_eq_true] at h
 exact ⟨h.1.1.1.1.1.1.1, h.1.1.1.1.1.1.2, h.1.1.1.1.1.2, h.1.1.1.1.2, (factsB_p h.2).1⟩

theorem dec_end {ts : List Tk} {k : Nat} (h : ∀ q, q < 6 -> decX ts k q = true) (hc : claimB (decC ts k 6) = true) : DecP ts k /\ (valF (atN ts k) idS).isSome = true /\ decC ts k 6 = qdC ts k := by
 have b0 := decX_parts.1 (h 0 (by omega))
 have b1 := decX_parts.1 (h 1 (by omega))
 have b2 := decX_parts.1 (h 2 (by omega))
 have b3 := decX_parts.1 (h 3 (by omega))
 have b4 := decX_parts.1 (h 4 (by omega))
 have b5 := decX_parts.1 (h 5 (by omega))
 have l0 : (kidsK ts k (localN 0)).length = 1 := by have h1 := b0.1; have h2 := b0.2.1; simp [leN, moN] at h1 h2; omega
 have l1 : (kidsK ts k (localN 1)).length = 1 := by have h1 := b1.1; have h2 := b1.2.1; simp [leN, moN] at h1 h2; omega
 have l2 : (kidsK ts k (localN 2)).length = 1 := by have h1 := b2.1; have h2 := b2.2.1; simp [leN, moN] at h1 h2; omega
 have l3 : (kidsK ts k (localN 3)).length = 1 := by have h1 := b3.1; have h2 := b3.2.1; simp [leN, moN] at h1 h2; omega
 have l4 : (kidsK ts k (localN 4)).length <= 1 := by have h2 := b4.2.1; simp [moN] at h2; omega
 have e := decC_is l0 l1 l2 l3 l4
 rw [e] at hc
 have ht := (tim_hear l2).2 b2.2.2
 refine ⟨⟨l0, l1, l2, l3, l4, (txt_hear (by rfl) l4).2 b4.2.2, ht.1, ht.2, fun j hj => b5.2.2 j hj, hc⟩, ?_, e⟩
 have hid := (claim_parts hc).1
 cases hv : valF (atN ts k) idS with
 | some x => rfl
 | none =>
  have e2 : (qdC ts k).id = ⟨#[]⟩ := by show (valF (atN ts k) idS).getD ⟨#[]⟩ = _; rw [hv]; rfl
  rw [e2] at hid
  exact absurd hid (by decide)

theorem dec_back {ts : List Tk} {k : Nat} (h : DecP ts k) : (∀ q, q < 6 -> decX ts k q = true) /\ claimB (decC ts k 6) = true := by
 obtain ⟨l0, l1, l2, l3, l4, l5, t1, t2, hn, hc⟩ := h
 have e := decC_is l0 l1 l2 l3 l4
 obtain ⟨_, w0, w1, w3, f4⟩ := claim_parts hc
 have hl : (kidsK ts k (localN 5)).length <= 4 := by
  have : (qdC ts k).facts.length = (kidsK ts k (localN 5)).length := by show (facN ts _).length = _; unfold facN; rw [List.length_map]
  omega
 refine ⟨fun q hq => decX_parts.2 ?_, by rw [e]; exact hc⟩
 match q, hq with
 | 0, _ => exact ⟨by rw [l0]; decide, by rw [l0]; decide, (txt_hear (q := 0) (by rfl) (by omega)).1 (fun _ => word_ne w0)⟩
 | 1, _ => exact ⟨by rw [l1]; decide, by rw [l1]; decide, (txt_hear (q := 1) (by rfl) (by omega)).1 (fun _ => word_ne w1)⟩
 | 2, _ => exact ⟨by rw [l2]; decide, by rw [l2]; decide, (tim_hear l2).1 ⟨t1, t2⟩⟩
 | 3, _ => exact ⟨by rw [l3]; decide, by rw [l3]; decide, (txt_hear (q := 3) (by rfl) (by omega)).1 (fun _ => word_ne w3)⟩
 | 4, _ => exact ⟨by simp [leN], by simp [moN]; omega, (txt_hear (q := 4) (by rfl) l4).1 l5⟩
 | 5, _ => exact ⟨by simp [leN], by simp [moN]; omega, fun j hj => hn j hj⟩

theorem qdB_is {ts : List Tk} {k : Nat} (h1 : (!decide ((nameI ts k).size = 0) && knownN ts k (⟨#[67, 108, 97, 105, 109]⟩ : ByteArray) claimS) = true) (h : ∀ q, q < 6 -> decX ts k q = true) (hc : claimB (decC ts k 6) = true) : qdB ts k = true /\ qdA ts k = decC ts k 6 := by
 obtain ⟨p1, p2, p3⟩ := dec_end h hc
 have e : qdB ts k = true := qdB_yes (by rw [h1, p2]; rfl) p1
 refine ⟨e, ?_⟩
 unfold qdA
 rw [if_pos e, p3]

theorem qdB_not {ts : List Tk} {k : Nat} (h : ¬ ((∀ q, q < 6 -> decX ts k q = true) /\ claimB (decC ts k 6) = true)) : qdB ts k = false /\ qdA ts k = zeroC := by
 have e : qdB ts k = false := qdB_no (fun hp => h (dec_back hp))
 refine ⟨e, ?_⟩
 unfold qdA
 rw [e]
 rfl

theorem qdB_head0 {ts : List Tk} {k : Nat} (h1 : (!decide ((nameI ts k).size = 0) && knownN ts k (⟨#[67, 108, 97, 105, 109]⟩ : ByteArray) claimS) = false) : qdB ts k = false /\ qdA ts k = zeroC := by
 have e : qdB ts k = false := qdB_head (by rw [h1]; rfl)
 refine ⟨e, ?_⟩
 unfold qdA
 rw [e]
 rfl

theorem fold_facts {q : Nat} (hq : q < 5) (l : List Say) (c : Cm) : (l.foldl (hearC q) c).facts = c.facts := by
 induction l generalizing c with
 | nil => rfl
 | cons s l ih =>
  rw [List.foldl_cons, ih]
  match q, hq with
  | 0, _ => rfl
  | 1, _ => rfl
  | 2, _ => rw [hearC_two]
  | 3, _ => rfl
  | 4, _ => rfl

theorem decC_facts (ts : List Tk) (k : Nat) : ∀ q, q <= 5 -> (decC ts k q).facts = []
 | 0, _ => rfl
 | q + 1, h => by rw [decC_succ, fold_facts (by omega)]; exact decC_facts ts k q (by omega)

theorem say_sz {ts : List Tk} (hz : TksSz 1048576 ts) {k : Nat} {loc : ByteArray} : ∀ s ∈ sayL ts (kidsK ts k loc), AtSz 1048576 s.attrs /\ s.attrs.length <= 1048576 := by
 intro s hs
 unfold sayL at hs
 obtain ⟨j, hj, rfl⟩ := List.mem_map.1 hs
 have hl := kidsK_lt hj
 have h3 := hz _ (List.getElem_mem hl)
 show AtSz 1048576 (atN ts j) /\ (atN ts j).length <= 1048576
 rw [atN_at hl]
 exact ⟨h3.2.2.1, h3.2.1⟩

theorem decC_sz {ts : List Tk} (hT : TreeP ts) (hz : TksSz 1048576 ts) {k : Nat} (h : ∀ q, q < 6 -> decX ts k q = true) : CmSz 1048576 (decC ts k 6) := by
 have b0 := decX_parts.1 (h 0 (by omega))
 have b1 := decX_parts.1 (h 1 (by omega))
 have b2 := decX_parts.1 (h 2 (by omega))
 have b3 := decX_parts.1 (h 3 (by omega))
 have b4 := decX_parts.1 (h 4 (by omega))
 rw [decC_is (by have h1 := b0.1; have h2 := b0.2.1; simp [leN, moN] at h1 h2; omega) (by have h1 := b1.1; have h2 := b1.2.1; simp [leN, moN] at h1 h2; omega) (by have h1 := b2.1; have h2 := b2.2.1; simp [leN, moN] at h1 h2; omega) (by have h1 := b3.1; have h2 := b3.2.1; simp [leN, moN] at h1 h2; omega) (by have h2 := b4.2.1; simp [moN] at h2; omega)]
 exact qdC_sz hT hz k

theorem idI_is {ts : List Tk} (hI : idsB ts = true) {k : Nat} (hk : k < ts.length) : idI ts (k : Int) = (valF (atN ts k) idS).getD ByteArray.empty := by
 unfold idI
 rw [if_pos ⟨hI, by omega, by omega⟩]
 show (idAt ts k).getD ByteArray.empty = _
 rw [idAt_at hk, atN_at hk]

theorem qd_known {ts : List Tk} {x : Int} (hN : namesB ts = true) (hI : idsB ts = true) (h : knownI ts x (⟨#[67, 108, 97, 105, 109]⟩ : ByteArray) claimS = false) : qdI ts x = false := by
 by_cases hx : 0 <= x /\ x < ts.length
 ·obtain ⟨k, rfl⟩ : ∃ k : Nat, x = k := ⟨x.toNat, by omega⟩
  have hk : k < ts.length := by omega
  rw [known_kid (idsB_t hI).2 hk] at h
  rw [(qdI_yes hN hI hk).1]
  exact (qdB_head0 h).1
 ·exact qdI_no (fun hh => hx ⟨hh.2.2.1, hh.2.2.2⟩)

theorem qdV_no {ts : List Tk} {x : Int} (h : qdI ts x = false) : qdV ts x = zeroC := by
 unfold qdV
 rw [h]
 rfl

end Go.Proofs.YtlpbbkaelbafdaaGreatDoor
