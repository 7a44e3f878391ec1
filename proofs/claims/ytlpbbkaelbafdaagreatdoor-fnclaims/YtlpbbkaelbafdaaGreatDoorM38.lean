/-  -/
import Derived.Test.YtlpbbkaelbafdaaGreatDoorM37
import Derived.Test.YtlpbbkaelbafdaaGreatDoorM33
import Derived.Test.YtlpbbkaelbafdaaGreatDoorM19
import Derived.Test.YtlpbbkaelbafdaaGreatDoorRows
import Derived.Test.YtlpbbkaelbafdaaGreatDoorM1
import Derived.Test.YtlpbbkaelbafdaaGreatDoorM34
import Derived.Test.YtlpbbkaelbafdaaGreatDoorM35
import Derived.Test.YtlpbbkaelbafdaaGreatDoorM36
import Derived.OpenShut
import Derived.WalkKit
import Derived.OwnWalk
import Derived.Laws.IdiomStrings
import Derived.Deep.RegionLaw
import Derived.Deep.QuietTactic
import Derived.BigQuiet
import Derived.Deep.CutRange
set_option linter.unusedVariables false
set_option linter.unusedSimpArgs false
namespace Go.Proofs.YtlpbbkaelbafdaaGreatDoor
open Go.RowKit

theorem Nd.Row.rdG {w : World} {B c : Nat} {a : Option Addr} {es : List Nd.E} {L : List Tk} (h : Nd.Row w B (.slice a es.length c) es) (hm : es.map (·.t) = L) : es.length = L.length /\ TkRow w a L := by
 have hl : es.length = L.length := by rw [<- hm, List.length_map]
 obtain ⟨a2, c2, e, ht⟩ := h.tkRow
 obtain ⟨rfl, rfl⟩ : a = a2 /\ c = c2 := by cases e; exact ⟨rfl, rfl⟩
 rw [hm] at ht
 exact ⟨hl, ht⟩

theorem Nd.Laid.hasG {ts : List Tk} {g : Nat} {G : Nat -> Nat} {cur : Array Value} {w : World} (h : Nd.Laid ts g ts.length G cur w) (hh : w.heap[g]? = some (.cells cur 42 (0, 0))) : ∀ b, (Nd.shL g G ts).Has b -> g <= b /\ b < w.heap.size := by
 rintro b (rfl | ⟨j, hj, _, rfl⟩)
 ·exact ⟨Nat.le_refl _, lt_of_heap hh⟩
 ·obtain ⟨h1, cu, h2, _⟩ := h.row j hj hj
  have h3 := lt_of_heap h2
  exact ⟨Nat.le_of_lt h1, h3⟩

theorem sumG {L : List Tk} (h : ∀ t ∈ L, t.attrs.length <= 6) : Nd.sumA L <= 6 * L.length := by
 unfold Nd.sumA
 induction L with
 | nil => simp
 | cons t L ih =>
  have := ih (fun x hx => h x (List.mem_cons_of_mem _ hx))
  have h2 := h t (List.mem_cons_self ..)
  simp only [List.map_cons, List.sum_cons, List.length_cons]
  omega

theorem treeG {ts : List Tk} (h : treeB ts = true) : TreeP ts := by unfold treeB at h; simpa using h

def AnsT (R : List Tk) : Prop := R = [] \/ TreeP R

theorem AnsT.len {R : List Tk} (h : AnsT R) : R.length <= 50 := by
 rcases h with h | h
 ·rw [h]; exact Nat.zero_le _
 ·exact h.2.1

theorem AnsT.six {R : List Tk} (h : AnsT R) : ∀ t ∈ R, t.attrs.length <= 6 := by
 rcases h with h | h
 ·rw [h]; exact fun t ht => absurd ht List.not_mem_nil
 ·intro t ht
  obtain ⟨k, hk, rfl⟩ := List.getElem_of_mem ht
  obtain ⟨⟨_, hb⟩, _⟩ := h.2.2.2.2 k hk
  by_cases e : R[k].name.size = 0
  ·rw [nodeB_tx e] at hb
   simp only [Bool.and_eq_true, decide_eq_true_eq] at hb
   omega
  ·rw [nodeB_el e] at hb
   simp only [Bool.and_eq_true] at hb
   have h2 := hb.2.1
   unfold attrsB at h2
   have h3 : AttrsOk R[k].attrs := by simpa using h2
   exact h3.1

theorem ans_branch (ts : List Tk) (x : Int) : AnsT (branchI ts x) := by
 unfold branchI
 split
 ·rename_i h
  obtain ⟨hT, k, rfl, hk⟩ := elemB_t h
  refine .inr (branch_tree hT hk ⟨hk, ?_⟩)
  unfold elemB at h
  rw [Bool.and_eq_true] at h
  have h2 := h.2
  rw [show (k : Int).toNat = k from rfl, nameI_at hk] at h2
  simpa using h2
 ·exact .inl rfl

theorem sz_branch {ts : List Tk} {x : Int} (hz : TksSz 1048576 ts) : TksSz 1048576 (branchI ts x) := by
 unfold branchI
 split
 ·exact segN_sz hz _
 ·exact fun t ht => absurd ht List.not_mem_nil

theorem ans_prune (ts : List Tk) (x : Int) : AnsT (pruneT ts x) := by
 unfold pruneT
 split
 ·rename_i h
  split
  ·rename_i h2
   unfold pruneB at h2
   simp only [Bool.and_eq_true] at h2
   exact .inr (treeG h2.2.2)
  ·exact .inr (treeG h)
 ·exact .inl rfl

theorem sz_prune {ts : List Tk} {x : Int} (hz : TksSz 1048576 ts) : TksSz 1048576 (pruneT ts x) := by
 unfold pruneT
 split
 ·rename_i h
  split
  ·exact cutL_sz (treeG h) hz
  ·exact hz
 ·exact fun t ht => absurd ht List.not_mem_nil

theorem ans_graft (ts br : List Tk) (x : Int) : AnsT (graftL ts br x) := by
 unfold graftL
 split
 ·rename_i h
  split
  ·rename_i h2
   unfold graftB at h2
   simp only [Bool.and_eq_true] at h2
   exact .inr (treeG h2.2.2)
  ·exact .inr (treeG h)
 ·exact .inl rfl

theorem sz_graft {ts br : List Tk} {x : Int} (hz : TksSz 1048576 ts) (hz2 : TksSz 1048576 br) : TksSz 1048576 (graftL ts br x) := by
 unfold graftL
 split
 ·split
  ·exact put_sz hz hz2
  ·exact hz
 ·exact fun t ht => absurd ht List.not_mem_nil

theorem ans_wrap (ts : List Tk) (x : Int) (name : ByteArray) : AnsT (wrapT ts x name) := by
 unfold wrapT
 split
 ·rename_i h
  split
  ·rename_i h2
   unfold wrapB at h2
   simp only [Bool.and_eq_true] at h2
   exact .inr (treeG h2.2.2.2)
  ·exact .inr (treeG h)
 ·exact .inl rfl

theorem sz_wrap {ts : List Tk} {x : Int} {name : ByteArray} (hz : TksSz 1048576 ts) (hn : name.size <= 1048576) : TksSz 1048576 (wrapT ts x name) := by
 unfold wrapT
 split
 ·split
  ·rename_i h2
   unfold wrapB at h2
   simp only [Bool.and_eq_true] at h2
   obtain ⟨_, k, rfl, hk⟩ := elemB_t h2.2.1
   exact wrapL_sz hk hz hn
  ·exact hz
 ·exact fun t ht => absurd ht List.not_mem_nil

end Go.Proofs.YtlpbbkaelbafdaaGreatDoor

namespace Go.Proofs.YtlpbbkaelbafdaaGreatDoor
open Go.RowKit

end Go.Proofs.YtlpbbkaelbafdaaGreatDoor

namespace Go.Proofs.YtlpbbkaelbafdaaGreatDoor
open Go.RowKit

theorem cBelowAny (n : Nat) (w0 : World) (a : Option Addr) (len cap b : Nat) (w : World) (hlen : len <= 4096) (hcr : CodeRow w0 a len) (hC : Cur w0 a len cap b w) (hn0 : 1 <= n) (hn1 : n <= 4294967296) :
  Calls Tryz.prog 28 #[.pointer (some ⟨b, 0, none⟩), .int .i64 n] w fun e w' => ∃ x : Nat, e = .returned (.int .i64 x) /\ x < n /\ Cur w0 a len cap b w' /\ w.grownBy w' (some b) := by
 by_cases h : n <= 256
 ·exact cBelow n w0 a len cap b w hlen hcr hC hn0 h
 ·exact cBelowBig n w0 a len cap b w hlen hcr hC (by omega) hn1

set_option maxRecDepth 8000 in
set_option maxHeartbeats 4000000 in
theorem cBendL (s signs : ByteArray) (w0 : World) (a : Option Addr) (len cap b : Nat) (w : World) (hs : s.size <= 100000) (hg0 : 1 <= signs.size) (hg1 : signs.size <= 256) (hlen : len <= 4096) (hcr : CodeRow w0 a len) (hC : Cur w0 a len cap b w) :
  Calls Tryz.prog 32 #[.pointer (some ⟨b, 0, none⟩), .string s, .string signs] w fun e w' => ∃ t : ByteArray, e = .returned (.string t) /\ t.size <= s.size + 2 /\ Cur w0 a len cap b w' /\ w.grownBy w' (some b) := by
 obtain ⟨i0, hi, hz0, hz1, hz2⟩ := info_parts info5d
 have HR : Hid (CodeRow w0 a len) := hcr
 have HC : Hid (Cur w0 a len cap b w) := hC
 clear hC hcr
 have hconv := run_bytes_of_string (P := Tryz.prog) w 9 22 5 s Tryz.underlying9 Tryz.underlying22 Tryz.underlying5
 obtain ⟨w1, hw1⟩ : ∃ w1, w1 = (w.drew.alloc (.cells (bytesRow s (grownCap w s.size 0 5)) 5 ((bytesRow s (grownCap w s.size 0 5)).size, (bytesRow s (grownCap w s.size 0 5)).size + 1))) := ⟨_, rfl⟩
 obtain ⟨cp, hcp⟩ : ∃ cp, cp = grownCap w s.size 0 5 := ⟨_, rfl⟩
 rw [<- hw1, <- hcp] at hconv
 have hcl : s.size <= cp := by rw [hcp]; exact grownCap_ge _ _ _ _
 have hcm : cp <= maxLen := by rw [hcp]; exact grownCap_le_maxLen _ _ _ _ (by unfold maxLen; omega)
 have HRow : Hid (Row w.heap.size b w1 (.slice (some ⟨w.heap.size, 0, none⟩) s.size cp) s.size) := by
  have hh : w1.heap[w.heap.size]? = some (.cells (bytesRow s cp) 5 ((bytesRow s cp).size, (bytesRow s cp).size + 1)) := by rw [hw1, <- hcp]; exact heap_alloc_new w.drew _
  have hbl : b < w.heap.size := HC.out.lt
  have hbs : (bytesRow s cp).size = cp := by
   have : s.data.size = s.size := rfl
   simp [bytesRow]; omega
  refine ⟨w.heap.size, cp, s.data.toList.map fun x => (x.toNat : Int), rfl, Nat.le_refl _, lt_of_heap hh, by omega, hcl, hcm, by simp, fun j hj => ?_, fun j hj => ?_⟩
  ·have hj' : j < s.data.size := hj
   rw [Lib.cell_of_heap hh]
   simp [bytesRow, List.getD, hj', hj, Array.getElem?_append]
  ·have : ¬ (bytesRow s cp).size <= j := by omega
   simp [World.frozen?, hh, this]
 have HC1 : Hid (Cur w0 a len cap b w1) := by rw [hw1]; exact Cur.alloc (w := w.drew) (HC.out.drewN 1) _
 have HG1 : Hid (w.grownBy w1 (some b)) := by
  rw [hw1]
  have gg := World.grownBy_alloc w.drew (.cells (bytesRow s (grownCap w s.size 0 5)) 5 ((bytesRow s (grownCap w s.size 0 5)).size, (bytesRow s (grownCap w s.size 0 5)).size + 1)) (some b)
  exact ⟨gg.os, gg.tape, gg.output, gg.size, gg.block⟩
 clear hw1 hcp hcl hcm
 go_enter Tryz.func32, Tryz.ntmps32
 go_wp2_with (go_at_call 28; refine (cBelow 3 w0 a len cap b _ hlen HR.out HC1.out (by decide) (by decide)).mono ?_; rintro e w2 ⟨x0, rfl, hx0, hC2, hG2⟩)
 have HC2 : Hid (Cur w0 a len cap b w2) := hC2
 have HG2 : Hid (w.grownBy w2 (some b)) := gtrans HG1.out hG2
 have HR2 : Hid (Row w.heap.size b w2 (.slice (some ⟨w.heap.size, 0, none⟩) s.size cp) s.size) := HRow.out.kept hG2
 clear hC2 hG2 hconv HRow HC1 HG1
 go_loopw [7, 8] (fun v n wr => ∃ m L : Nat, n = .int .i64 m /\ m <= 2 /\ L + m <= s.size + 2 /\ Row w.heap.size b wr v L /\ Cur w0 a len cap b wr /\ w.grownBy wr (some b)) (fun _ n _ => (intOf n).toNat)
 case atStart => exact ⟨x0, s.size, rfl, by omega, by omega, HR2.out, HC2.out, HG2.out⟩
 case round =>
  obtain ⟨m, L, rfl, hm, hL, hRow, hCr, hGr⟩ := hrel
  have HRr : Hid (Row w.heap.size b wr u7 L) := hRow
  obtain ⟨g, cap', xs, rfl, hgB, hgl, hgb, hLc, hcm, hxl, hcell, hfr⟩ := hRow
  have HCr : Hid (Cur w0 a len cap b wr) := hCr
  have HGr : Hid (w.grownBy wr (some b)) := hGr
  clear hCr hGr
  by_cases hgo : 0 < m /\ 0 < L
  ·obtain ⟨hm0, hL0⟩ := hgo
   have hLb : decide ((0 : Int) < (L : Int)) = true := by simp; omega
   have hmb : decide ((0 : Int) < (m : Int)) = true := by simp; omega
   go_wp2_with fail
   refine (cBelowAny L w0 a len cap b _ hlen HR.out HCr.out (by omega) (by omega)).mono ?_
   rintro e w3 ⟨k, rfl, hk, hC3, hG3⟩
   go_wp2_with fail
   refine (cBelow 4 w0 a len cap b _ hlen HR.out hC3 (by decide) (by decide)).mono ?_
   rintro e w4 ⟨q, rfl, hq, hC4, hG4⟩
   have HC4 : Hid (Cur w0 a len cap b w4) := hC4
   have HG4 : Hid (wr.grownBy w4 (some b)) := gtrans hG3 hG4
   clear hC3 hG3 hC4 hG4 hLb hmb
   rcases (show q = 0 \/ q = 1 \/ q = 2 \/ q = 3 from by omega) with rfl | rfl | rfl | rfl
   ·go_wp2_with fail
    refine (cBelow signs.size w0 a len cap b _ hlen HR.out HC4.out hg0 hg1).mono ?_
    rintro e w5 ⟨y, rfl, hy, hC5, hG5⟩
    have hblk := (gtrans HG4.out hG5).block g hgl (by simpa using hgb)
    have hG : w.grownBy w5 (some b) := gtrans HGr.out (gtrans HG4.out hG5)
    have hc5 : ∀ j, j < L -> w5.cell? ⟨g, j, none⟩ = some (.int .u8 (xs.getD j 0)) := fun j hj => (World.cell?_of_block (a := ⟨g, j, none⟩) hblk).trans (hcell j hj)
    have hf5 : ∀ j, j < L -> w5.frozen? ⟨g, j, none⟩ = false := fun j hj => (World.frozen?_of_block (a := ⟨g, j, none⟩) hblk).trans (hfr j hj)
    have hg5 : g < w5.heap.size := Nat.lt_of_lt_of_le hgl (Nat.le_trans HG4.out.size hG5.size)
    have R := Row.set (B := w.heap.size) (b := b) (w := w5) hgB hg5 hgb hLc hcm hxl hc5 hf5 k hk
    have HRn : Hid (∀ c, Row w.heap.size b (w5.setCell ⟨g, k, none⟩ (.int .u8 c)) (.slice (some ⟨g, 0, none⟩) L cap') L) := R
    have HCn : Hid (∀ c : Int, Cur w0 a len cap b (w5.setCell ⟨g, k, none⟩ (.int .u8 c))) := fun c => hC5.grown (Lib.grownBy_setCell w5 g k _) (by simpa using fun e : b = g => hgb e.symm) (fun x hx => by have := HCr.out.size; have := HGr.out.size; have := HC.out.size; simp at hx; omega)
    have HGn : Hid (∀ c : Int, w.grownBy (w5.setCell ⟨g, k, none⟩ (.int .u8 c)) (some b)) := fun c => g_row hG (Lib.grownBy_setCell w5 g k _) (fun x hx => by simp at hx; omega)
    have ck := hc5 k hk
    have fk := hf5 k hk
    clear hblk hG hc5 hf5 R hC5 hG5 hcell hfr
    go_wp2
    go_roundw
    case rel => exact ⟨m - 1, L, by go_num, by omega, by omega, HRn.out _, HCn.out _, HGn.out _⟩
    case measure => simp [intOf]; omega
   ·have HRn : Hid (Row w.heap.size b w4 (.slice (some ⟨g, 0, none⟩) k cap') k) := (HRr.out.kept HG4.out).cut k (by omega)
    have HGn : Hid (w.grownBy w4 (some b)) := gtrans HGr.out HG4.out
    have hcz : ¬ cap' = 0 := by omega
    have hkc : (k : Int) <= (cap' : Int) := by omega
    clear hcell hfr
    go_wp2
    go_roundw
    case rel => exact ⟨m - 1, k, by go_num, by omega, by omega, HRn.out, HC4.out, HGn.out⟩
    case measure => simp [intOf]; omega
   ·have hcz : ¬ cap' = 0 := by omega
    have hwr : IntKind.i64.wrap ((k : Int) + 1) = (k : Int) + 1 := IntWalk.i64_in _ (by omega)
    have hs3 := sl_pre g L cap' k (by omega) hcz
    obtain ⟨A, hA, hAj⟩ := suf_addr g L cap' (k + 1) hLc
    have hs8 : ∀ W, (Instr.slice 22 (.slice (some ⟨g, 0, none⟩) L cap') (some (.int .i64 ((k : Int) + 1))) none none).run Tryz.prog W = .ok (.slice (some A) (L - (k + 1)) (cap' - (k + 1))) W := fun W => by
     have := sl_suf g L cap' (k + 1) (by omega) hLc W
     rw [hA] at this
     exact this
    have hblk := HG4.out.block g hgl (by simpa using hgb)
    have hg4 : g < w4.heap.size := Nat.lt_of_lt_of_le hgl HG4.out.size
    have hw4 : w.heap.size <= w4.heap.size := Nat.le_trans HGr.out.size HG4.out.size
    have hcb : ∀ j, j < L -> (bare w4).cell? ⟨g, j, none⟩ = some (.int .u8 (xs.getD j 0)) := fun j hj => by
     rw [cell_bare w4 g j hg4]; exact (World.cell?_of_block (a := ⟨g, j, none⟩) hblk).trans (hcell j hj)
    have HO0 : Hid ((bare w4).ownsRow w.heap.size 5 1 (.slice (some ⟨w4.heap.size, 0, none⟩) 0 0) 0 []) := own_bare w4 _ hw4
    have HS1 : Hid (∀ j u, ((xs.take k).map (Value.int .u8))[j]? = some u -> (bare w4).cell? ((⟨g, 0, none⟩ : Addr).add j) = some u) := src_pre hxl (by omega) hcb
    have HCB : Hid (∀ j, j < L -> (bare w4).cell? ⟨g, j, none⟩ = some (.int .u8 (xs.getD j 0))) := hcb
    have HAj : Hid (∀ j, j < L - (k + 1) -> A.add j = ⟨g, (k + 1) + j, none⟩) := hAj
    have hl1 : ((xs.take k).map (Value.int .u8)).length = k * 1 := by simp; omega
    have hl2 : ((xs.drop (k + 1)).map (Value.int .u8)).length = (L - (k + 1)) * 1 := by simp; omega
    clear hcell hfr hblk hcb hAj hA
    go_wp2
    go_region_law (first
     | (refine step_append_own rfl (.tmp 47) (.tmp 50) 22 rfl w.heap.size 5 i0 (.int .u8 0) 1 1 Tryz.underlying22 hi hz0 hz1 hz2 rfl (by decide) (.slice (some ⟨w4.heap.size, 0, none⟩) 0 0) 0 [] (by simp [Act.eval, Act.put]) HO0.out ⟨g, 0, none⟩ k cap' ((xs.take k).map (Value.int .u8)) (by simp [Act.eval, Act.put]) hl1 HS1.out (ints_one _) (by unfold maxLen; omega) (by omega) (by simp [bare]; omega) ?_; intro v1 W1 hown1 hgrow1 hnil1)
     | (refine step_append_own rfl (.tmp 51) (.tmp 55) 22 rfl w.heap.size 5 i0 (.int .u8 0) 1 1 Tryz.underlying22 hi hz0 hz1 hz2 rfl (by decide) v1 (0 + k) ([] ++ (xs.take k).map (Value.int .u8)) (by simp [Act.eval, Act.put]) hown1 A (L - (k + 1)) (cap' - (k + 1)) ((xs.drop (k + 1)).map (Value.int .u8)) (by simp [Act.eval, Act.put]) hl2 (src_suf hxl HAj.out (cell_grown HO0.out hgrow1 (by simp [bare]; omega) (by simp [Value.ownBlock]; omega) HCB.out)) (ints_one _) (by unfold maxLen; omega) (by omega) (Nat.le_trans (show w.heap.size <= (bare w4).heap.size by simp [bare]; omega) hgrow1.size) ?_; intro v2 W2 hown2 hgrow2 hnil2))
    have hw0 : w0.heap.size <= w.heap.size := HC.out.size
    have hbl : b < w4.heap.size := HC4.out.lt
    have C1 := HC4.out.bare.grown hgrow1 (by simp [Value.ownBlock]; omega) (own_ge (w1 := W1) HO0.out hw0)
    have C2 := C1.grown hgrow2 (fun e => (C1.ne hown1) e.symm) (own_ge (w1 := W2) hown1 hw0)
    have G1 := g_row (gtrans HGr.out HG4.out) (grown_bare w4 none) (by simp)
    have G2 := g_row (g_row G1 hgrow1 (own_ge (w1 := W1) HO0.out (Nat.le_refl _))) hgrow2 (own_ge (w1 := W2) hown1 (Nat.le_refl _))
    have nn1 : v1 ≠ .slice none 0 0 := fun e => by simpa using (hnil1.1 e).1
    have nn2 : v2 ≠ .slice none 0 0 := fun e => nn1 (hnil2.1 e).1
    have R : Row w.heap.size b W2 v2 (L - 1) := by
     refine Row.of_own (zs := xs.take k ++ xs.drop (k + 1)) ?_ nn2 (C2.ne hown2)
     have e1 : 0 + k + (L - (k + 1)) = L - 1 := by omega
     rw [<- e1, List.map_append]
     exact hown2
    have HRn : Hid (Row w.heap.size b W2 v2 (L - 1)) := R
    have HCn : Hid (Cur w0 a len cap b W2) := C2
    have HGn : Hid (w.grownBy W2 (some b)) := G2
    clear R C1 C2 G1 G2 nn1 nn2 hown1 hown2 hgrow1 hgrow2 hnil1 hnil2 hs3 hs8 hwr HO0 HS1 HCB HAj hl1 hl2
    go_wp2
    go_roundw
    case rel => exact ⟨m - 1, L - 1, by go_num, by omega, by omega, HRn.out, HCn.out, HGn.out⟩
    case measure => simp [intOf]; omega
   ·have hcz : ¬ cap' = 0 := by omega
    have hs3 := sl_pre g L cap' k (by omega) hcz
    obtain ⟨A, hA, hAj⟩ := suf_addr g L cap' k hLc
    have hs8 : ∀ W, (Instr.slice 22 (.slice (some ⟨g, 0, none⟩) L cap') (some (.int .i64 (k : Int))) none none).run Tryz.prog W = .ok (.slice (some A) (L - k) (cap' - k)) W := fun W => by
     have := sl_suf g L cap' k (by omega) hLc W
     rw [hA] at this
     exact this
    have hblk := HG4.out.block g hgl (by simpa using hgb)
    have hg4 : g < w4.heap.size := Nat.lt_of_lt_of_le hgl HG4.out.size
    have hw4 : w.heap.size <= w4.heap.size := Nat.le_trans HGr.out.size HG4.out.size
    have hw0 : w0.heap.size <= w.heap.size := HC.out.size
    have hbl : b < w4.heap.size := HC4.out.lt
    have hcb : ∀ j, j < L -> (bare w4).cell? ⟨g, j, none⟩ = some (.int .u8 (xs.getD j 0)) := fun j hj => by
     rw [cell_bare w4 g j hg4]; exact (World.cell?_of_block (a := ⟨g, j, none⟩) hblk).trans (hcell j hj)
    have HO0 : Hid ((bare w4).ownsRow w4.heap.size 5 1 (.slice (some ⟨w4.heap.size, 0, none⟩) 0 0) 0 []) := own_bare w4 _ (Nat.le_refl _)
    have HS1 : Hid (∀ j u, ((xs.take k).map (Value.int .u8))[j]? = some u -> (bare w4).cell? ((⟨g, 0, none⟩ : Addr).add j) = some u) := src_pre hxl (by omega) hcb
    have HCB : Hid (∀ j, j < L -> (bare w4).cell? ⟨g, j, none⟩ = some (.int .u8 (xs.getD j 0))) := hcb
    have HAj : Hid (∀ j, j < L - k -> A.add j = ⟨g, k + j, none⟩) := hAj
    have hl1 : ((xs.take k).map (Value.int .u8)).length = k * 1 := by simp; omega
    have hl2 : ((xs.drop k).map (Value.int .u8)).length = (L - k) * 1 := by simp; omega
    have HCbare : Hid (Cur w0 a len cap b (bare w4)) := HC4.out.bare
    clear hcell hfr hblk hcb hAj hA
    go_wp2
    go_region_law (first
     | (refine step_append_own rfl (.tmp 59) (.tmp 62) 22 rfl w4.heap.size 5 i0 (.int .u8 0) 1 1 Tryz.underlying22 hi hz0 hz1 hz2 rfl (by decide) (.slice (some ⟨w4.heap.size, 0, none⟩) 0 0) 0 [] (by simp [Act.eval, Act.put]) HO0.out ⟨g, 0, none⟩ k cap' ((xs.take k).map (Value.int .u8)) (by simp [Act.eval, Act.put]) hl1 HS1.out (ints_one _) (by unfold maxLen; omega) (by omega) (by simp [bare]) ?_; intro v1 W1 hown1 hgrow1 hnil1; have hC1 := HCbare.out.grown hgrow1 (by simp [Value.ownBlock]; omega) (own_ge (w1 := W1) HO0.out (Nat.le_trans hw0 hw4)); have hcW1 := cell_grown HO0.out hgrow1 (by simp [bare]; omega) (by simp [Value.ownBlock]; omega) HCB.out; have hsW1 : w4.heap.size <= W1.heap.size := Nat.le_trans (show w4.heap.size <= (bare w4).heap.size by simp [bare]) hgrow1.size; have HW1 : Hid (∀ j, j < L -> W1.cell? ⟨g, j, none⟩ = some (.int .u8 (xs.getD j 0))) := hcW1; clear hcW1)
     | (refine step_append_own rfl (.tmp 63) (.tmp 70) 22 rfl w4.heap.size 5 i0 (.int .u8 0) 1 1 Tryz.underlying22 hi hz0 hz1 hz2 rfl (by decide) v1 (0 + k) ([] ++ (xs.take k).map (Value.int .u8)) (by simp [Act.eval, Act.put]) ((own_kept hC1 hown1 hG5).alloc _) ⟨W2.heap.size, 0, none⟩ 1 1 [.int .u8 (signs[y].toNat : Int)] (by simp [Act.eval, Act.put]) rfl (one_cell5 _ _) (ints_one [(signs[y].toNat : Int)]) (by unfold maxLen; omega) (by omega) (by simp; have := hG5.size; omega) ?_; intro v3 W3 hown3 hgrow3 hnil3)
     | (refine step_append_own rfl (.tmp 71) (.tmp 74) 22 rfl w4.heap.size 5 i0 (.int .u8 0) 1 1 Tryz.underlying22 hi hz0 hz1 hz2 rfl (by decide) v3 (0 + k + 1) (([] ++ (xs.take k).map (Value.int .u8)) ++ [.int .u8 (signs[y].toNat : Int)]) (by simp [Act.eval, Act.put]) hown3 A (L - k) (cap' - k) ((xs.drop k).map (Value.int .u8)) (by simp [Act.eval, Act.put]) hl2 (src_suf hxl HAj.out (cells3 hg4 hgb hsW1 HW1.out hG5 hown1 hgrow3)) (ints_one _) (by unfold maxLen; omega) (by omega) (Nat.le_trans hsW1 (Nat.le_trans hG5.size (Nat.le_trans (by simp) hgrow3.size))) ?_; intro v4 W4 hown4 hgrow4 hnil4)
     | (go_simp; go_at_call 28; refine (cBelow signs.size w0 a len cap b _ hlen HR.out hC1 hg0 hg1).mono ?_; rintro e W2 ⟨y, rfl, hy, hC5, hG5⟩))
    have O2 := own_kept hC1 hown1 hG5
    have C3 := (hC5.alloc (.cells #[.int .u8 (signs[y].toNat : Int)] 5)).grown hgrow3 (fun e => (hC5.ne O2) e.symm) (own_ge (w1 := W3) O2 (Nat.le_trans hw0 hw4))
    have C4 := C3.grown hgrow4 (fun e => (C3.ne hown3) e.symm) (own_ge (w1 := W4) hown3 (Nat.le_trans hw0 hw4))
    have G1 := g_row (gtrans HGr.out HG4.out) (grown_bare w4 none) (by simp)
    have G2 := gtrans (g_row G1 hgrow1 (own_ge (w1 := W1) HO0.out hw4)) hG5
    have G3 := g_row (g_row G2 (World.grownBy_alloc W2 (.cells #[.int .u8 (signs[y].toNat : Int)] 5) none) (by simp)) hgrow3 (own_ge (w1 := W3) O2 hw4)
    have G4 := g_row G3 hgrow4 (own_ge (w1 := W4) hown3 hw4)
    have nn1 : v1 ≠ .slice none 0 0 := fun e => by simpa using (hnil1.1 e).1
    have nn3 : v3 ≠ .slice none 0 0 := fun e => nn1 (hnil3.1 e).1
    have nn4 : v4 ≠ .slice none 0 0 := fun e => nn3 (hnil4.1 e).1
    have R : Row w4.heap.size b W4 v4 (L + 1) := by
     refine Row.of_own (zs := xs.take k ++ [(signs[y].toNat : Int)] ++ xs.drop k) ?_ nn4 (C4.ne hown4)
     have e1 : 0 + k + 1 + (L - k) = L + 1 := by omega
     rw [<- e1, List.map_append, List.map_append]
     exact hown4
    have HRn : Hid (Row w.heap.size b W4 v4 (L + 1)) := R.mono hw4
    have HCn : Hid (Cur w0 a len cap b W4) := C4
    have HGn : Hid (w.grownBy W4 (some b)) := G4
    clear R O2 C3 C4 G1 G2 G3 G4 nn1 nn3 nn4 hown1 hown3 hown4 hgrow1 hgrow3 hgrow4 hnil1 hnil3 hnil4 hs3 hs8 HO0 HS1 HCB HAj hl1 hl2 hC1 hC5 hG5 HW1
    go_wp2
    go_roundw
    case rel => exact ⟨m - 1, L + 1, by go_num, by omega, by omega, HRn.out, HCn.out, HGn.out⟩
    case measure => simp [intOf]; omega
  ·have hrow : ∀ W, (∀ j, j < L -> W.cell? ⟨g, j, none⟩ = some (.int .u8 (xs.getD j 0))) -> (convert 22 9 (.slice (some ⟨g, 0, none⟩) L cap')).run Tryz.prog W = .ok (.string (strOfNums xs)) W := fun W hW => run_convert_bytes_arg (P := Tryz.prog) W 22 5 Tryz.underlying22 Tryz.underlying5 g 0 L cap' xs hxl (fun i hi => by rw [Nat.zero_add]; exact hW i hi) 9 Tryz.underlying9
   have hr := hrow wr hcell
   have hsz : (strOfNums xs).size = L := by rw [strOfNums_size]; exact hxl
   clear hrow hcell hfr
   by_cases hm0 : 0 < m
   ·have hmb : decide ((0 : Int) < (m : Int)) = true := by simp; omega
    have hLb : decide ((0 : Int) < (L : Int)) = false := by simp; omega
    go_wp2
    go_ret
    exact ⟨_, rfl, by rw [hsz]; omega, HCr.out, HGr.out⟩
   ·have hmb : decide ((0 : Int) < (m : Int)) = false := by simp; omega
    go_wp2
    go_ret
    exact ⟨_, rfl, by rw [hsz]; omega, HCr.out, HGr.out⟩

end Go.Proofs.YtlpbbkaelbafdaaGreatDoor

namespace Go.Proofs.YtlpbbkaelbafdaaGreatDoor
open Go.RowKit

set_option maxHeartbeats 2000000 in
theorem cFromR (lo : Int) (n : Nat) (hi : Int) (hlo : -100 <= lo) (hlo2 : lo <= 100) (hn : hi - lo + 1 = (n : Int)) (hn0 : 1 <= n) (hn1 : n <= 256) (w0 : World) (a : Option Addr) (len cap b : Nat) (w : World) (hlen : len <= 4096) (hcr : CodeRow w0 a len) (hC : Cur w0 a len cap b w) :
  Calls Tryz.prog 80 #[.pointer (some ⟨b, 0, none⟩), .int .i64 lo, .int .i64 hi] w fun e w' => ∃ x : Int, e = .returned (.int .i64 x) /\ lo <= x /\ x <= hi /\ Cur w0 a len cap b w' /\ w.grownBy w' (some b) := by
 have HR : Hid (CodeRow w0 a len) := hcr
 have HC : Hid (Cur w0 a len cap b w) := hC
 have HNN := hid hn
 have hi1 : hi <= 1000 := by omega
 have hi2 : -1000 <= hi := by omega
 have C := hid (cBelow n w0 a len cap b w hlen HR.out HC.out hn0 hn1)
 rw [<- hn] at C
 clear hcr hC hn
 go_enter Tryz.func80, Tryz.ntmps80
 go_wp2_with fail
 refine C.out.mono ?_
 rintro e w1 ⟨x, rfl, hx, hC1, hG1⟩
 have hx2 : (x : Int) < 300 := by omega
 have HX := hid hx
 have HC1 := hid hC1
 have HG1 := hid hG1
 clear hC1 hG1 C hx
 go_wp2_with fail
 go_ret
 exact ⟨_, rfl, by omega, by have := HNN.out; have := HX.out; omega, HC1.out, HG1.out⟩

set_option maxRecDepth 8000 in
set_option maxHeartbeats 8000000 in
theorem cDrawAtR (a' : Option Addr) (n c' : Nat) (hn : n <= 50) (w0 : World) (a : Option Addr) (len cap b : Nat) (w : World) (hlen : len <= 4096) (hcr : CodeRow w0 a len) (hC : Cur w0 a len cap b w) :
  Calls Tryz.prog 33 #[.pointer (some ⟨b, 0, none⟩), .slice a' n c'] w fun e w' => ∃ x : Int, e = .returned (.int .i64 x) /\ -1 <= x /\ x <= 50 /\ Cur w0 a len cap b w' /\ w.grownBy w' (some b) := by
 have HR := hid hcr
 have HC := hid hC
 clear hcr hC
 by_cases h0 : n = 0
 ·subst h0
  go_enter Tryz.func33, Tryz.ntmps33
  go_wp2_with fail
  refine (cFromR (-1) 14 12 (by omega) (by omega) (by omega) (by omega) (by omega) w0 a len cap b _ hlen HR.out HC.out).mono ?_
  rintro e w1 ⟨x, rfl, hx1, hx2, hC1, hG1⟩
  have HC1 := hid hC1
  have HG1 := hid hG1
  clear hC1 hG1
  go_wp2_with fail
  go_ret
  exact ⟨_, rfl, hx1, by omega, HC1.out, HG1.out⟩
 ·have hd : decide ((0 : Int) < (n : Int)) = true := decide_eq_true (by omega)
  have hp : (0 : Int) < (n : Int) := by omega
  have CB := hid (fun wx (h : Cur w0 a len cap b wx) => cBelow n w0 a len cap b wx hlen HR.out h (by omega) (by omega))
  go_enter Tryz.func33, Tryz.ntmps33
  go_wp2_with fail
  refine (cOnce 10 w0 a len cap b _ hlen HR.out HC.out (by omega) (by omega)).mono ?_
  rintro e w1 ⟨B1, rfl, hC1, hG1⟩
  have HC1 := hid hC1
  have HG1 := hid hG1
  clear hC1 hG1
  cases B1
  ·go_wp2_with fail
   refine (CB.out _ HC1.out).mono ?_
   rintro e w2 ⟨x, rfl, hx, hC2, hG2⟩
   have HX := hid hx
   have HC2 := hid hC2
   have HG2 := hid (gtrans HG1.out hG2)
   clear hC2 hG2 hx
   go_wp2_with fail
   go_ret
   exact ⟨_, rfl, by omega, by have := HX.out; omega, HC2.out, HG2.out⟩
  ·go_wp2_with fail
   refine (cFromR (-1) 14 12 (by omega) (by omega) (by omega) (by omega) (by omega) w0 a len cap b _ hlen HR.out HC1.out).mono ?_
   rintro e w2 ⟨x, rfl, hx1, hx2, hC2, hG2⟩
   have HC2 := hid hC2
   have HG2 := hid (gtrans HG1.out hG2)
   clear hC2 hG2
   go_wp2_with fail
   go_ret
   exact ⟨_, rfl, hx1, by omega, HC2.out, HG2.out⟩

def TrD (w0 : World) (a : Option Addr) (len cap b B : Nat) (m : Nat) (v : Value) (W : World) : Prop :=
 ∃ a' n c', v = .slice a' n c' /\ n <= 50 /\ n <= c' /\ c' <= maxLen /\ ShapeR B W m a' n /\ Cur w0 a len cap b W

theorem TrD.of_row {w0 : World} {a : Option Addr} {len cap b B m : Nat} {w W : World} {v : Value} {L : List Tk} (h : RowOf w W v L) (hz : TksSz m L) (hn : L.length <= 50) (hC : Cur w0 a len cap b w) (hB : B <= w.heap.size) : TrD w0 a len cap b B m v W := by
 obtain ⟨a1, c1, e1, h1⟩ := h.shape hz
 obtain ⟨a2, c2, e2, _, h2, h3⟩ := RowOf.capR h
 rw [e1] at e2
 obtain ⟨rfl, _, rfl⟩ := Value.slice.inj e2
 exact ⟨a1, L.length, c1, e1, hn, h2, h3, h1.more (Nat.le_refl _) hB, hC.below h.bel⟩

theorem TrD.draw {w0 : World} {a : Option Addr} {len cap b B m : Nat} {v : Value} {W W' : World} (h : TrD w0 a len cap b B m v W) (hC : Cur w0 a len cap b W') (hg : W.grownBy W' (some b)) (hb : b < B) : TrD w0 a len cap b B m v W' := by
 obtain ⟨a', n, c', e, h1, h2, h3, h4, _⟩ := h
 exact ⟨a', n, c', e, h1, h2, h3, h4.grown hg hb, hC⟩

theorem TrD.below {w0 : World} {a : Option Addr} {len cap b B m : Nat} {v : Value} {W W' : World} (h : TrD w0 a len cap b B m v W) (hb : Below W.heap.size W W') : TrD w0 a len cap b B m v W' := by
 obtain ⟨a', n, c', e, h1, h2, h3, h4, h5⟩ := h
 exact ⟨a', n, c', e, h1, h2, h3, h4.below hb, h5.below hb⟩

theorem TrD.more {w0 : World} {a : Option Addr} {len cap b B m m' : Nat} {v : Value} {W : World} (h : TrD w0 a len cap b B m v W) (hm : m <= m') : TrD w0 a len cap b B m' v W := by
 obtain ⟨a', n, c', e, h1, h2, h3, h4, h5⟩ := h
 exact ⟨a', n, c', e, h1, h2, h3, h4.more hm (Nat.le_refl _), h5⟩

set_option maxRecDepth 8000 in
set_option maxHeartbeats 8000000 in
theorem cDrawDecoded (hD : L14) (a : Option Addr) (len cap : Nat) (w : World) (hlen : len <= 4096) (hcr : CodeRow w a len) :
  Calls Tryz.prog 7 #[.slice a len cap] w (DrawnD w) := by
 have HR := hid hcr
 have HD := hid hD
 clear hcr hD
 go_enter Tryz.func7, Tryz.ntmps7
 go_wp2_with fail
 refine (cNew a len cap _ hlen HR.out).mono ?_
 rintro e w1 ⟨rfl, hC1⟩
 have HC1 := hid hC1
 clear hC1
 go_wp2_with fail
 refine (HD.out w a len cap _ _ hlen HR.out HC1.out).mono ?_
 rintro e w2 ⟨c, v, rfl, hown, hz, h3, hC2, hG2, n1, n2, n3⟩
 obtain ⟨av, cv, hv, hoa⟩ := qa_own hown
 subst hv
 have CT := hid (cTreeS c av cv w2 hoa.rd (sz_more hz (by decide)) (by omega) n1 n2 n3)
 have HTZ := hid (tree_s300 hz (by omega))
 have HC2 := hid hC2
 obtain ⟨b, hb⟩ : ∃ b, w.heap.size = b := ⟨_, rfl⟩
 have hb2 : b < w2.heap.size := by have := hC2.lt; omega
 rw [hb] at HC2
 clear hown hz h3 hC2 hG2 n1 n2 n3 hoa HD HC1
 generalize treeTo c (qTx c.frm) (qTx c.til) 6 = T at *
 unfold cmV at CT
 unfold clV
 go_wp2_with fail
 refine CT.out.mono ?_
 rintro e w3 ⟨v3, rfl, hr3⟩
 have HT := hid (TrD.of_row hr3 HTZ.out.1 (by have := HTZ.out.2.2; omega) HC2.out (Nat.le_refl _))
 obtain ⟨a3, c3, hv3, _⟩ := hr3.tk
 subst hv3
 have hn1 := HTZ.out.2.1
 have hn2 := HTZ.out.2.2
 generalize T.length = n at *
 clear hr3 CT HTZ HC2
 simp only [hb]
 go_wp2_with fail
 refine (cOnce 3 w a len cap b _ hlen HR.out (by obtain ⟨_, _, _, _, _, _, _, _, h⟩ := HT.out; exact h) (by decide) (by decide)).mono ?_
 rintro e w4 ⟨k, rfl, hC4, hG4⟩
 have HT4 := hid (HT.out.draw hC4 hG4 hb2)
 have HC4 := hid hC4
 clear hC4 hG4 HT
 go_upto_if 21 with fail
 go_cut [5] from 22 to 90 (fun v wv => Hid (TrD w a len cap b w2.heap.size 1048576 v wv))
 case first =>
  cases k
  ·go_wp2_with fail
   go_meet
   exact HT4.out.more (by decide)
  ·have CBn := hid (fun wx (h : Cur w a len cap b wx) => cBelow n w a len cap b wx hlen HR.out h hn1 (by omega))
   go_wp2_with fail
   refine (CBn.out _ HC4.out).mono ?_
   rintro e w5 ⟨x, rfl, hx, hC5, hG5⟩
   have HT5 := hid (HT4.out.draw hC5 hG5 hb2)
   have HC5 := hid hC5
   clear hC5 hG5 HT4 HC4 CBn
   go_wp2_with fail
   refine (cBelow 4 w a len cap b _ hlen HR.out HC5.out (by decide) (by decide)).mono ?_
   rintro e w6 ⟨y, rfl, hy, hC6, hG6⟩
   have HT6 := hid (HT5.out.draw hC6 hG6 hb2)
   have HC6 := hid hC6
   clear hC6 hG6 HT5 HC5
   have HSZ := hid (show w2.heap.size <= w6.heap.size from by
    obtain ⟨a', n', c', e', _, _, _, h4, _⟩ := HT6.out
    obtain ⟨_, rfl, _⟩ := Value.slice.inj e'
    obtain ⟨b', _, _, _, _, _, _, hl, _⟩ := h4 0 (by omega)
    omega)
   obtain ⟨ts, hts, hRow, hTz, hcc, hcm⟩ : ∃ ts : List Tk, ts.length = n /\ TkRow w6 a3 ts /\ TksSz 250 ts /\ n <= c3 /\ c3 <= maxLen := by
    obtain ⟨a', n', c', e', _, g2, g3, h4, _⟩ := HT6.out
    obtain ⟨rfl, rfl, rfl⟩ := Value.slice.inj e'
    obtain ⟨ts, q1, q2, q3⟩ := h4.row
    exact ⟨ts, q1, q2, q3, g2, g3⟩
   have hTz2 : TksSz 1048576 ts := fun t ht => ⟨Nat.le_trans (hTz t ht).1 (by decide), Nat.le_trans (hTz t ht).2.1 (by decide), fun z hz => ⟨Nat.le_trans ((hTz t ht).2.2.1 z hz).1 (by decide), Nat.le_trans ((hTz t ht).2.2.1 z hz).2 (by decide)⟩, Nat.le_trans (hTz t ht).2.2.2 (by decide)⟩
   rcases (show y = 0 \/ y = 1 \/ y = 2 \/ y = 3 from by omega) with rfl | rfl | rfl | rfl
   ·have CP := hid (cPrunedS a3 c3 ts (x : Int) w6 hRow (by omega) hcm (by omega) hTz2)
    have HAZ := hid (sz_prune (x := (x : Int)) hTz2)
    have HAL := hid ((ans_prune ts (x : Int)).len)
    rw [hts] at CP
    generalize pruneT ts (x : Int) = L at *
    generalize pruneB ts (x : Int) = P at *
    clear hRow hTz hTz2 hts
    go_wp2_with fail
    refine CP.out.mono ?_
    rintro e w7 ⟨v7, rfl, hr7⟩
    have HT7 := hid (HT6.out.below hr7.bel)
    have HN7 := hid (TrD.of_row (B := w2.heap.size) hr7 HAZ.out HAL.out HC6.out HSZ.out)
    clear hr7
    cases P
    ·go_wp2_with fail
     go_meet
     exact HT7.out.more (by decide)
    ·go_wp2_with fail
     go_meet
     exact HN7.out
   ·have CP := hid (cBranchS a3 c3 ts (x : Int) w6 hRow (by omega) hTz2)
    have HAZ := hid (sz_branch (x := (x : Int)) hTz2)
    have HAL := hid ((ans_branch ts (x : Int)).len)
    have CG := hid (fun (wx : World) (hb : Below w6.heap.size w6 wx) (ab : Option Addr) (cb : Nat) (br : List Tk) (h : TkRow wx ab br) (hl : br.length <= 50) (hz : TksSz 1048576 br) => cGraftedS a3 ab c3 cb ts br 0 wx (hRow.below hb) h (by omega) hcm (by omega) (by omega) hTz2 hz)
    have HGZ := hid (fun (br : List Tk) (hz : TksSz 1048576 br) => And.intro (sz_graft (x := 0) hTz2 hz) (ans_graft ts br 0).len)
    rw [hts] at CP CG
    generalize branchI ts (x : Int) = L at *
    generalize elemB ts (x : Int) = P at *
    clear hRow hTz hTz2
    go_wp2_with fail
    refine CP.out.mono ?_
    rintro e w7 ⟨v7, rfl, hr7⟩
    have HT7 := hid (HT6.out.below hr7.bel)
    have HC7 := hid (HC6.out.below hr7.bel)
    have HS7 := hid (Nat.le_trans HSZ.out hr7.bel.size)
    obtain ⟨a7, c7, hv7, ht7⟩ := hr7.tk
    have CG7 := hid (CG.out w7 hr7.bel a7 c7 L ht7 HAL.out HAZ.out)
    have HGZ7 := hid (HGZ.out L HAZ.out)
    subst hv7
    generalize graftL ts L 0 = LG at *
    generalize graftB ts L 0 = PG at *
    clear hr7 ht7 CG HGZ hts
    cases P
    ·go_wp2_with fail
     go_meet
     exact HT7.out.more (by decide)
    ·go_wp2_with fail
     refine CG7.out.mono ?_
     rintro e w8 ⟨v8, rfl, hr8⟩
     have HN8 := hid (TrD.of_row (B := w2.heap.size) hr8 HGZ7.out.1 HGZ7.out.2 HC7.out HS7.out)
     clear hr8
     go_wp2_with fail
     go_meet
     exact HN8.out
   ·have CP := hid (cWrappedS a3 c3 ts (x : Int) ⟨#[99, 58, 70, 97, 99, 116]⟩ w6 hRow (by omega) hcm (by omega) hTz2 (by decide))
    have HAZ := hid (sz_wrap (x := (x : Int)) (name := ⟨#[99, 58, 70, 97, 99, 116]⟩) hTz2 (by decide))
    have HAL := hid ((ans_wrap ts (x : Int) ⟨#[99, 58, 70, 97, 99, 116]⟩).len)
    rw [hts] at CP
    generalize wrapT ts (x : Int) ⟨#[99, 58, 70, 97, 99, 116]⟩ = L at *
    generalize wrapB ts (x : Int) ⟨#[99, 58, 70, 97, 99, 116]⟩ = P at *
    clear hRow hTz hTz2 hts
    go_wp2_with fail
    refine CP.out.mono ?_
    rintro e w7 ⟨v7, rfl, hr7⟩
    have HT7 := hid (HT6.out.below hr7.bel)
    have HN7 := hid (TrD.of_row (B := w2.heap.size) hr7 HAZ.out HAL.out HC6.out HSZ.out)
    clear hr7
    cases P
    ·go_wp2_with fail
     go_meet
     exact HT7.out.more (by decide)
    ·go_wp2_with fail
     go_meet
     exact HN7.out
   ·clear hRow hTz hTz2 hts
    obtain ⟨a', n', c', e', g1, g2, g3, hSh, _⟩ := HT6.out
    obtain ⟨rfl, rfl, rfl⟩ := Value.slice.inj e'
    have HSH := hid hSh
    obtain ⟨nb, no, nk, aa, nA, ca, rfl, hnl, _, _, q2, q3, _, q5⟩ := hSh x hx
    have HQ5 := hid q5
    have hxn : (x : Int) < (n : Int) := by omega
    have HQ2 := hid q2
    have HNL := hid hnl
    have HLB := hid (show b < w2.heap.size from hb2)
    clear hSh q5 hnl
    by_cases hA : nA = 0
    ·subst hA
     go_wp2_with fail
     go_meet
     exact HT6.out.more (by decide)
    ·have hd : decide ((0 : Int) < (nA : Int)) = true := decide_eq_true (by omega)
     have hp : (0 : Int) < (nA : Int) := by omega
     have hp2 : 0 < nA := by omega
     obtain ⟨ab, ao, ea, _⟩ := HQ5.out 0 hp2
     subst ea
     have CB1 := hid (show Calls Tryz.prog 28 #[.pointer (some ⟨b, 0, none⟩), .int .i64 (nA : Int)] w6.drew fun r w' => ∃ y : Nat, r = .returned (.int .i64 y) /\ (y : Int) < (nA : Int) /\ w'.cell? ⟨nb, no + x * 4 + 2, none⟩ = some (.slice (some ⟨ab, ao, none⟩) nA ca) /\ Hid (Cur w a len cap b w') /\ Hid (w6.grownBy w' (some b)) by
      refine (cBelow nA w a len cap b _ hlen HR.out (HC6.out.drewN 1) (by omega) (by omega)).mono ?_
      rintro r w7 ⟨y, rfl, hy, hC7, hG7⟩
      have hG := gtrans (g_drewN (World.grownBy.refl w6 (some b)) 1) hG7
      exact ⟨y, rfl, by omega, (cell_grown14 hG HNL.out.2 (by have := HNL.out.1; have := HLB.out; omega)).trans HQ2.out, hC7, hG⟩)
     go_wp2_with fail
     go_region_law (first
      | (go_simp; go_at_call 28; refine CB1.out.mono ?_; rintro r w7 ⟨y, rfl, hyi, d2, HC7, HG7⟩))
     all_goals
      have HS7 := hid (HSH.out.grown HG7.out hb2)
      have HQ7 := hid (HQ5.out.grown HG7.out hb2)
      obtain ⟨ab', ao', ea', hal, _, hst⟩ := HQ7.out y (by omega)
      cases ea'
      obtain ⟨s, hs1, hs2, hs3⟩ := hst
      have HAL := hid hal
      clear q2 d2 CB1
      go_wp2_with fail
      refine (cBendL s ⟨#[48, 49, 50, 57, 45]⟩ w a len cap b _ (by omega) (by decide) (by decide) hlen HR.out HC7.out).mono ?_
      rintro e w8 ⟨t, rfl, ht, hC8, hG8⟩
      have HS8 := hid ((HS7.out.grown hG8 hb2).more (show 250 <= 1048576 by decide) (Nat.le_refl _))
      have hst8 := (show StrC w7 250 ⟨ab, ao + y * 2 + 1, none⟩ from ⟨s, hs1, hs2, hs3⟩).grown hG8 HAL.out.2 (by have := HAL.out.1; omega)
      have HW8 := hid (wrote_set (s := t) (hst8.more (show 250 <= 1048576 by decide)) (by omega))
      obtain ⟨s8, p1, p2, p3⟩ := hst8
      have HN8 := hid (HS8.out.wrote HW8.out)
      have HC8 := hid (show Cur w a len cap b (w8.setCell ⟨ab, ao + y * 2 + 1, none⟩ (.string t)) from by
       obtain ⟨c1, c2, i', h', k1, k2, k3⟩ := hC8
       exact ⟨c1, c2.setCell (show w.heap.size <= ab by have := HAL.out.1; omega) _, i', h', k1, k2, (Below.heap_setCell _ _ _ _ (show ¬ b = ab by have := HAL.out.1; omega)).trans k3⟩)
      clear hC8 hG8 hs1 hs3
      go_wp2_with fail
      go_meet
      exact ⟨_, _, _, rfl, g1, g2, g3, HN8.out, HC8.out⟩
 case rest =>
  have HT9 := hid hcut.out
  clear hcut HT4 HC4
  obtain ⟨a9, n9, c9, e9, m9, _, _, hS9, hC9⟩ := HT9.out
  have HS9 := hid hS9
  have HC9 := hid hC9
  subst e9
  clear hS9 hC9 HT9
  go_wp2_with fail
  refine (cOnce 10 w a len cap b _ hlen HR.out HC9.out (by decide) (by decide)).mono ?_
  rintro e w10 ⟨k, rfl, hC10, hG10⟩
  have HS10 := hid (HS9.out.grown hG10 hb2)
  have HC10 := hid hC10
  clear hC10 hG10 HS9 HC9
  have HFIN := hid (fun (W : World) (z : Int) (h : ShapeR w2.heap.size W 1048576 a9 n9) (hC : Cur w a len cap b W) => show DrawnD w (.returned (.tuple #[.slice a9 n9 c9, .int .i64 z])) W from by
   obtain ⟨ts, q1, q2, q3⟩ := h.row
   exact ⟨a9, c9, ts, z, by rw [q1], q2, by omega, q3, hC.2.1⟩)
  cases k
  ·go_wp2_with fail
   go_ret2
   exact HFIN.out _ _ HS10.out HC10.out
  ·go_wp2_with fail
   refine (cDrawAtR a9 n9 c9 m9 w a len cap b _ hlen HR.out HC10.out).mono ?_
   rintro e w11 ⟨z, rfl, _, _, hC11, hG11⟩
   have HS11 := hid (HS10.out.grown hG11 hb2)
   have HC11 := hid hC11
   clear hC11 hG11
   go_wp2_with fail
   go_ret2
   exact HFIN.out _ _ HS11.out HC11.out

end Go.Proofs.YtlpbbkaelbafdaaGreatDoor
