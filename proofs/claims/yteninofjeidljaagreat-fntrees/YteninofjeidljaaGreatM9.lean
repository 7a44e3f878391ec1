/- The reader of a letter in the program: contract of add. Plain mathematics of unescaping: one sign read at the head of a text, and a text read sign by sign. Plain mathematics of what a text's tokens are, along the specification. Contracts of l7Till and l7Remark of the specification. -/
import Derived.Test.YteninofjeidljaaGreatM7
import Derived.Test.YteninofjeidljaaGreatM8
import Derived.Test.YteninofjeidljaaGreatM5
import Derived.Deep.RegionLaw
import Derived.WalkKit
namespace Go.Proofs.YteninofjeidljaaGreat

open Go.RowKit

set_option linter.unusedVariables false

set_option linter.unusedSimpArgs false

theorem Tn.Row.low {w w' : World} {B g : Nat} {v : Value} {es : List Tn.E} (h : Tn.Row w B v es) (hk : KeepB (fun k => k = g) w w') (hg : g < B) : Tn.Row w' B v es := by
  refine ⟨⟨h.own.1, ?_⟩, fun e he => ⟨fun hl => ?_, (h.ats e he).2⟩, h.apart⟩
  · rcases h.own.2 with h' | ⟨g1, cap, cur, h1, h2, h3, h4⟩
    · exact .inl h'
    · exact .inr ⟨g1, cap, cur, h1, h2, (hk.block g1 (lt_of_heap h3) (by omega)).trans h3, h4⟩
  · obtain ⟨g1, o1, cu, e1, e2, e3, e4⟩ := (h.ats e he).1 hl
    exact ⟨g1, o1, cu, e1, e2, (hk.block g1 (lt_of_heap e3) (by omega)).trans e3, e4⟩

/-- A reader and the tokens that it has read, in memory behind its own. -/
structure RdT (w : World) (B g : Nat) (s : ByteArray) (p m : Nat) (tx : ByteArray) (v : Value) (es : List Tn.E) : Prop where
  rdr : Rdr w g s p m tx v
  row : Tn.Row w B v es
  lt : g < B
  le : B ≤ w.heap.size

/-- A token that may be added: its attrs are its own. -/
structure Fit (w : World) (B : Nat) (v : Value) (es : List Tn.E) (e : Tn.E) : Prop where
  ats : OwnAts w B e.a e.t.attrs
  ne : ∀ g o, 0 < e.t.attrs.length → e.a = some ⟨g, o, none⟩ → ¬ v.ownBlock = some g
  ap : ∀ x ∈ es, Tn.Apart x e

theorem Rdr.setV {w : World} {g : Nat} {s : ByteArray} {p m : Nat} {tx : ByteArray} {v : Value} (h : Rdr w g s p m tx v) (u : Value) : Rdr (w.setCell ⟨g, 4, none⟩ u) g s p m tx u := ⟨heap_setCell_same w g 4 _ _ _ h.heap⟩

theorem tok_cells {w : World} {g : Nat} {t : Tk} {a1 : Option Addr} {c1 nl : Nat} (h : w.heap[g]? = some (.cells #[.int .i64 t.kind, .string t.name, .slice a1 nl c1, .string t.text] 49 (0, 0))) (hnl : t.attrs.length = nl) :
    ∀ j u, (Tn.cs [⟨t, a1, c1⟩])[j]? = some u → w.cell? ((⟨g, 0, none⟩ : Addr).add j) = some u := by
  subst hnl
  intro j u hj
  rw [add_plainW, Nat.zero_add, Lib.cell_of_heap h]
  rw [Tn.cs_one] at hj
  match j, hj with
  | 0, hj => exact hj
  | 1, hj => exact hj
  | 2, hj => exact hj
  | 3, hj => exact hj

theorem Rdr.from {w w' : World} {g B : Nat} {s : ByteArray} {p m : Nat} {tx : ByteArray} {v : Value} (h : Rdr w g s p m tx v) (hb : Below B w w') (hg : g < B) : Rdr w' g s p m tx v := ⟨(hb.block g hg).trans h.heap⟩

set_option maxRecDepth 8000 in
set_option maxHeartbeats 8000000 in
theorem cAdd (B g : Nat) (s : ByteArray) (p m : Nat) (tx : ByteArray) (v : Value) (es : List Tn.E) (e : Tn.E) (w : World) (h : RdT w B g s p m tx v es) (hf : Fit w B v es e) (hz : TkSz 1048576 e.t) (hn : es.length ≤ 1000) :
    Calls Tryz.prog 167 #[.pointer (some ⟨g, 0, none⟩), tkV e.t e.a e.cap] w fun x w' => x = .returned (.bool (decide (es.length + 1 ≤ 120) && tokB e.t)) ∧ (∃ v', RdT w' B g s p m tx v' (es ++ [e])) ∧ Below g w w' ∧ KeepB (fun q => q = g ∨ v.ownBlock = some q) w w' := by
  obtain ⟨t, a, cap⟩ := e
  obtain ⟨k, nm, l, txt⟩ := t
  simp only [tkV]
  have HT := hid h
  have HF := hid hf
  obtain ⟨⟨c0, c1, c2, c3, c4⟩, hfz⟩ := h.rdr.cells
  have f4 := hfz 4
  obtain ⟨av, cv, hv⟩ := h.row.slice
  have hgl := lt_of_heap h.rdr.heap
  subst hv
  obtain ⟨nl, hnl⟩ : ∃ nl, l.length = nl := ⟨_, rfl⟩
  have HNL := hid hnl
  rw [hnl]
  obtain ⟨ne, hne⟩ : ∃ ne, es.length = ne := ⟨_, rfl⟩
  have HNE := hid hne
  rw [hne] at c4 hn ⊢
  have BXO := hid (heap_alloc_new w (.cells #[.int .i64 k, .string nm, .slice a nl cap, .string txt] 49))
  have HL1 := hid ((Below.refl w.heap.size w).alloc (Nat.le_refl _) (.cells #[.int .i64 k, .string nm, .slice a nl cap, .string txt] 49))
  clear h hf hfz hnl hne
  go_enter Tryz.func167, Tryz.ntmps167
  go_wp2_with fail
  obtain ⟨W1, hW1⟩ : ∃ W1, w.alloc (.cells #[.int .i64 k, .string nm, .slice a nl cap, .string txt] 49) = W1 := ⟨_, rfl⟩
  simp only [hW1]
  rw [hW1] at BXO HL1
  obtain ⟨⟨b0, b1, b2, b3⟩, -⟩ := box4 BXO.out
  have HR1 := hid (HT.out.rdr.below HL1.out)
  obtain ⟨⟨-, -, -, -, r4⟩, -⟩ := HR1.out.cells
  rw [HNE.out] at r4
  have HL2 := hid (((Below.refl W1.heap.size W1).alloc (Nat.le_refl _) (.cells #[.int .i64 k, .string nm, .slice a nl cap, .string txt] 49)).drew)
  have HRW := hid ((HT.out.row.below HL1.out).below HL2.out)
  have HFW := hid (show OwnAts ((W1.alloc (.cells #[.int .i64 k, .string nm, .slice a nl cap, .string txt] 49)).drew) B a l from (HF.out.ats.below HL1.out).below HL2.out)
  have HCL := hid (tok_cells (t := ⟨k, nm, l, txt⟩) (w := (W1.alloc (.cells #[.int .i64 k, .string nm, .slice a nl cap, .string txt] 49)).drew) (heap_alloc_new W1 _) HNL.out)
  have HRX := hid (HR1.out.below HL2.out)
  have HBN := hid (show B ≤ ((W1.alloc (.cells #[.int .i64 k, .string nm, .slice a nl cap, .string txt] 49)).drew).heap.size from Nat.le_trans HT.out.le (Nat.le_trans HL1.out.size HL2.out.size))
  have HLL := hid (show (es ++ [(⟨⟨k, nm, l, txt⟩, a, cap⟩ : Tn.E)]).length = ne + 1 by rw [List.length_append, HNE.out]; rfl)
  rw [HNE.out] at HRW
  obtain ⟨⟨-, -, -, -, r5⟩, -⟩ := HRX.out.cells
  rw [HNE.out] at r5
  have r6 : (W1.alloc (.cells #[.int .i64 k, .string nm, .slice a nl cap, .string txt] 49)).cell? ⟨g, 4, none⟩ = some (.slice av ne cv) := r5
  clear r5
  have hgB := HT.out.lt
  have HVL := hid (show ∀ j, (Value.slice av ne cv).ownBlock = some j → j < w.heap.size from fun j e => by
    have h := HT.out.row.own
    rw [HNE.out] at h
    exact (h.lt j e).2)
  have HBW := hid (show ((W1.alloc (.cells #[.int .i64 k, .string nm, .slice a nl cap, .string txt] 49)).drew).heap[w.heap.size]? = some (.cells #[.int .i64 k, .string nm, .slice a nl cap, .string txt] 49 (0, 0)) from blk_below BXO.out HL2.out)
  clear c0 c1 c2 c3 c4 f4 hW1
  go_region_law (refine Tn.step_join rfl (.tmp 9) (.tmp 11) rfl B (.slice av ne cv) es [⟨⟨k, nm, l, txt⟩, a, cap⟩] (by simp [Act.eval, Act.put]) HRW.out W1.heap.size 1 1 (by simp [Act.eval, Act.put]) rfl HCL.out (fun x hx => by (rw [List.mem_singleton] at hx; subst hx; exact ⟨HFW.out, fun g' o' h1 h2 => by (have := HF.out.ne g' o' h1 h2; rw [HNE.out] at this; exact this)⟩)) (List.pairwise_singleton _ _) (fun x hx y hy => by (rw [List.mem_singleton] at hy; subst hy; exact HF.out.ap x hx)) (by (rw [HNE.out]; simp; omega)) HBN.out ?_; intro a5 c5 w5 hr5 hb5 hg5; have HR5 := hid hr5; have BX5 := hid ((hg5.block w.heap.size (lt_of_heap HBW.out) (fun e => by (have := HVL.out _ e.symm; omega))).trans HBW.out); have HX5 := hid (HRX.out.from hb5 hgB); have HB5 := hid hb5; obtain ⟨⟨_, _, _, _, s4⟩, fz5⟩ := HX5.out.cells; have f5 := fz5 4; have HG5 := hid (show KeepB (fun q => q = g ∨ (Value.slice av ne cv).ownBlock = some q) w w5 from ((KeepB.of_below _ HL1.out).trans (KeepB.of_below _ HL2.out)).trans ⟨hg5.os, hg5.tape, hg5.output, hg5.size, fun i hi hp => hg5.block i hi (fun e => hp (.inr e.symm))⟩); clear hr5 hb5 fz5 hg5)
  all_goals (
    have HRF := hid (HX5.out.setV (.slice a5 (es ++ [(⟨⟨k, nm, l, txt⟩, a, cap⟩ : Tn.E)]).length c5))
    have HKP := hid (KeepB.of_set (p := fun q => q = g) w5 4 (.slice a5 (es ++ [(⟨⟨k, nm, l, txt⟩, a, cap⟩ : Tn.E)]).length c5) rfl)
    have HRT := hid (HR5.out.low HKP.out hgB)
    have HBF := hid (show Below g w (w5.setCell ⟨g, 4, none⟩ (.slice a5 (es ++ [(⟨⟨k, nm, l, txt⟩, a, cap⟩ : Tn.E)]).length c5)) from ((((HL1.out.mono (Nat.le_of_lt hgl)).trans (HL2.out.mono (Nat.le_trans (Nat.le_of_lt hgl) HL1.out.size))).trans (HB5.out.mono (Nat.le_of_lt hgB))).setCell (p := ⟨g, 4, none⟩) (Nat.le_refl _) _))
    have hne2 : ¬ g = w.heap.size := by omega
    have HKF := hid (HG5.out.trans (KeepB.of_set (p := fun q => q = g ∨ (Value.slice av ne cv).ownBlock = some q) w5 4 (.slice a5 (es ++ [(⟨⟨k, nm, l, txt⟩, a, cap⟩ : Tn.E)]).length c5) (.inl rfl)))
    have BXF := hid ((heap_setCell_other w5 ⟨g, 4, none⟩ w.heap.size (.slice a5 (es ++ [(⟨⟨k, nm, l, txt⟩, a, cap⟩ : Tn.E)]).length c5) (by show ¬ w.heap.size = g; omega)).trans BX5.out)
    rw [HLL.out] at HRF HKP HRT HBF BXF HKF
    rw [HNE.out]
    clear b0 b1 b2 b3 r4 r6 s4 f5 HX5 HB5 BX5 HR5
    generalize w5.setCell ⟨g, 4, none⟩ (.slice a5 (ne + 1) c5) = W6 at *
    have HSZ := hid (show B ≤ W6.heap.size from Nat.le_trans HT.out.le HBF.out.size)
    have HAW := hid (HRT.out.ats ⟨⟨k, nm, l, txt⟩, a, cap⟩ (by simp)).1.atRow
    have CT := hid (show Calls Tryz.prog 60 #[.agg #[.int .i64 k, .string nm, .slice a nl cap, .string txt]] W6 fun e w' => e = .returned (.bool (tokB ⟨k, nm, l, txt⟩)) ∧ Below W6.heap.size W6 w' by
      have h := cTokenOkI ⟨k, nm, l, txt⟩ a cap W6 HAW.out hz
      simp only [tkV] at h
      rw [HNL.out] at h
      exact h)
    obtain ⟨⟨t0, t1, t2, t3⟩, -⟩ := box4 BXF.out
    obtain ⟨⟨-, -, -, -, u4⟩, -⟩ := HRF.out.cells
    clear HRW HFW HCL HRX HBN HL2 HBW HVL HR1 BXO BXF HAW HF HKP HL1
    by_cases h12 : ne + 1 ≤ 120
    · have hd : decide ((ne : Int) + 1 ≤ 120) = true := by simp; omega
      have HDD := hid (show decide (ne + 1 ≤ 120) = true by simp; omega)
      go_wp2_with fail
      refine CT.out.mono ?_
      rintro e9 w9 ⟨rfl, hb9⟩
      have HB9 := hid hb9
      clear hb9 CT
      go_wp2_with fail
      go_ret
      exact ⟨by rw [HDD.out, Bool.true_and]; rfl, ⟨_, HRF.out.below HB9.out, HRT.out.below HB9.out, HT.out.lt, Nat.le_trans HSZ.out HB9.out.size⟩, HBF.out.trans (HB9.out.mono (Nat.le_trans (Nat.le_of_lt HT.out.lt) HSZ.out)), HKF.out.trans (KeepB.of_below _ HB9.out)⟩
    · have hd : decide ((ne : Int) + 1 ≤ 120) = false := by simp; omega
      have HDD := hid (show decide (ne + 1 ≤ 120) = false by simp; omega)
      go_wp2_with fail
      go_ret
      exact ⟨by rw [HDD.out, Bool.false_and]; rfl, ⟨_, HRF.out, HRT.out, HT.out.lt, HSZ.out⟩, HBF.out, HKF.out⟩)

end Go.Proofs.YteninofjeidljaaGreat

namespace Go.Proofs.YteninofjeidljaaGreat

open Go.RowKit

def amp : List UInt8 := [38, 97, 109, 112, 59]

def lt : List UInt8 := [38, 108, 116, 59]

def gt : List UInt8 := [38, 103, 116, 59]

def quot : List UInt8 := [38, 113, 117, 111, 116, 59]

/-- The sign that begins a text, and how many bytes write it. -/
def readL (l : List UInt8) : Option (UInt8 × Nat) :=
  match l with
  | [] => none
  | c :: _ =>
    if c.toNat = 38 then
      (if amp.isPrefixOf l then some (38, 5) else if lt.isPrefixOf l then some (60, 4) else if gt.isPrefixOf l then some (62, 4) else if quot.isPrefixOf l then some (34, 6) else none)
    else some (c, 1)

def runU : Nat → List UInt8 → List UInt8 → Option (List UInt8)
  | 0, _, acc => some acc
  | _ + 1, [], acc => some acc
  | f + 1, c :: r, acc => match readL (c :: r) with
    | none => none
    | some (x, k) => runU f ((c :: r).drop k) (acc ++ [x])

def unescL (l : List UInt8) : Option (List UInt8) := if plainL l then runU l.length l [] else none

def outU (r : Option (List UInt8)) : List UInt8 := r.getD []

theorem runU_end (f : Nat) (acc : List UInt8) : runU f [] acc = some acc := by cases f <;> rfl

theorem runU_stop (f : Nat) (l acc : List UInt8) (hl : l.length ≤ f) (h0 : l ≠ []) (h : readL l = none) : runU f l acc = none := by
  cases l with
  | nil => exact absurd rfl h0
  | cons c r =>
    cases f with
    | zero => simp at hl
    | succ f => rw [runU, h]

theorem runU_step (f : Nat) (l acc : List UInt8) (x : UInt8) (k : Nat) (hl : l.length ≤ f + 1) (h0 : l ≠ []) (h : readL l = some (x, k)) : runU (f + 1) l acc = runU f (l.drop k) (acc ++ [x]) := by
  cases l with
  | nil => exact absurd rfl h0
  | cons c r => rw [runU, h]

theorem readL_plain (c : UInt8) (r : List UInt8) (h : ¬ c.toNat = 38) : readL (c :: r) = some (c, 1) := by
  rw [readL, if_neg h]

theorem readL_amp (l : List UInt8) (h : amp.isPrefixOf l = true) : readL l = some (38, 5) := by
  cases l with
  | nil => simp [amp] at h
  | cons c r =>
    have hc : c.toNat = 38 := by simp [amp] at h; rw [← h.1]; rfl
    rw [readL, if_pos hc, if_pos h]

theorem readL_lt (l : List UInt8) (h0 : amp.isPrefixOf l = false) (h : lt.isPrefixOf l = true) : readL l = some (60, 4) := by
  cases l with
  | nil => simp [lt] at h
  | cons c r =>
    have hc : c.toNat = 38 := by simp [lt] at h; rw [← h.1]; rfl
    rw [readL, if_pos hc, if_neg (by simp [h0]), if_pos h]

theorem readL_gt (l : List UInt8) (h0 : amp.isPrefixOf l = false) (h1 : lt.isPrefixOf l = false) (h : gt.isPrefixOf l = true) : readL l = some (62, 4) := by
  cases l with
  | nil => simp [gt] at h
  | cons c r =>
    have hc : c.toNat = 38 := by simp [gt] at h; rw [← h.1]; rfl
    rw [readL, if_pos hc, if_neg (by simp [h0]), if_neg (by simp [h1]), if_pos h]

theorem readL_quot (l : List UInt8) (h0 : amp.isPrefixOf l = false) (h1 : lt.isPrefixOf l = false) (h2 : gt.isPrefixOf l = false) (h : quot.isPrefixOf l = true) : readL l = some (34, 6) := by
  cases l with
  | nil => simp [quot] at h
  | cons c r =>
    have hc : c.toNat = 38 := by simp [quot] at h; rw [← h.1]; rfl
    rw [readL, if_pos hc, if_neg (by simp [h0]), if_neg (by simp [h1]), if_neg (by simp [h2]), if_pos h]

theorem readL_none (c : UInt8) (r : List UInt8) (hc : c.toNat = 38) (h0 : amp.isPrefixOf (c :: r) = false) (h1 : lt.isPrefixOf (c :: r) = false) (h2 : gt.isPrefixOf (c :: r) = false) (h3 : quot.isPrefixOf (c :: r) = false) : readL (c :: r) = none := by
  rw [readL, if_pos hc, if_neg (by simp [h0]), if_neg (by simp [h1]), if_neg (by simp [h2]), if_neg (by simp [h3])]

theorem isPrefixOf_le {a l : List UInt8} (h : a.isPrefixOf l = true) : a.length ≤ l.length := (List.isPrefixOf_iff_prefix.1 h).length_le

/-- What is read is one byte at least, and lies in the text. -/
theorem readL_le (l : List UInt8) (x : UInt8) (k : Nat) (h : readL l = some (x, k)) : 1 ≤ k ∧ k ≤ l.length := by
  cases l with
  | nil => simp [readL] at h
  | cons c r =>
    rw [readL] at h
    split at h
    · split at h
      · rename_i hp; have := isPrefixOf_le hp; simp at h; obtain ⟨_, rfl⟩ := h; simp [amp] at this; simp; omega
      · split at h
        · rename_i hp; have := isPrefixOf_le hp; simp at h; obtain ⟨_, rfl⟩ := h; simp [lt] at this; simp; omega
        · split at h
          · rename_i hp; have := isPrefixOf_le hp; simp at h; obtain ⟨_, rfl⟩ := h; simp [gt] at this; simp; omega
          · split at h
            · rename_i hp; have := isPrefixOf_le hp; simp at h; obtain ⟨_, rfl⟩ := h; simp [quot] at this; simp; omega
            · simp at h
    · simp at h; obtain ⟨_, rfl⟩ := h; simp

end Go.Proofs.YteninofjeidljaaGreat

namespace Go.Proofs.YteninofjeidljaaGreat

open Go.RowKit

set_option linter.unusedVariables false

/-- What stands ahead of the first of these signs. -/
def tillL (g : List UInt8) : List UInt8 → List UInt8
  | [] => []
  | c :: r => if g.contains c then [] else c :: tillL g r

/-- What stands from the first of these signs on. -/
def restL (g : List UInt8) : List UInt8 → List UInt8
  | [] => []
  | c :: r => if g.contains c then c :: r else restL g r

theorem till_rest (g l : List UInt8) : tillL g l ++ restL g l = l := by
  induction l with
  | nil => rfl
  | cons c r ih =>
    unfold tillL restL
    split
    · rfl
    · rw [List.cons_append, ih]

theorem rest_drop (g l : List UInt8) : restL g l = l.drop (tillL g l).length := by
  have h := till_rest g l
  have e : l.drop (tillL g l).length = (tillL g l ++ restL g l).drop (tillL g l).length := by rw [h]
  rw [e, List.drop_left]

theorem till_take (g l : List UInt8) : tillL g l = l.take (tillL g l).length := by
  have h := till_rest g l
  have e : l.take (tillL g l).length = (tillL g l ++ restL g l).take (tillL g l).length := by rw [h]
  rw [e, List.take_left]

theorem till_le (g l : List UInt8) : (tillL g l).length ≤ l.length := by
  have h := congrArg List.length (till_rest g l)
  rw [List.length_append] at h
  omega

theorem till_cons_in {g : List UInt8} {c : UInt8} (h : g.contains c = true) (r : List UInt8) : tillL g (c :: r) = [] := by unfold tillL; rw [if_pos h]

theorem till_cons_out {g : List UInt8} {c : UInt8} (h : g.contains c = false) (r : List UInt8) : tillL g (c :: r) = c :: tillL g r := by rw [tillL, if_neg (by rw [h]; exact Bool.false_ne_true)]

theorem rest_cons_out {g : List UInt8} {c : UInt8} (h : g.contains c = false) (r : List UInt8) : restL g (c :: r) = restL g r := by rw [restL, if_neg (by rw [h]; exact Bool.false_ne_true)]

/-- Behind a remark, whose first four signs are passed. -/
def scanR : List UInt8 → Option (List UInt8)
  | a :: b :: c :: r => if a = 45 ∧ b = 45 then (if c = 62 then some r else none) else scanR (b :: c :: r)
  | _ => none

def remL (l : List UInt8) : Option (List UInt8) := if l.take 4 = [60, 33, 45, 45] then scanR (l.drop 4) else none

def bytesOf (l : List UInt8) : ByteArray := ⟨l.toArray⟩

/-- Attrs, each behind a blank. -/
def atL : Nat → List UInt8 → List At → Option (List At × List UInt8)
  | 0, _, _ => none
  | f + 1, l, acc =>
    if l.head? = some 32 then
      if (restL [61] l).take 2 = [61, 34] then
        if (restL [34, 60] ((restL [61] l).drop 2)).head? = some 34 then
          match unescL (tillL [34, 60] ((restL [61] l).drop 2)) with
          | some u => atL f ((restL [34, 60] ((restL [61] l).drop 2)).drop 1) (acc ++ [⟨bytesOf ((tillL [61] l).drop 1), bytesOf u⟩])
          | none => none
        else none
      else none
    else some (acc, l)

/-- A tag. -/
def tagL (l : List UInt8) : Option (Tk × Bool × List UInt8) :=
  if (l.drop 1).head? = some 47 then
    if (restL [62] l).head? = some 62 then some (⟨2, bytesOf ((tillL [62] l).drop 2), [], ⟨#[]⟩⟩, false, (restL [62] l).drop 1) else none
  else
    match atL (l.length + 1) (restL [32, 47, 62] (l.drop 1)) [] with
    | none => none
    | some (ats, q) =>
      if q.head? = some 62 then some (⟨1, bytesOf (tillL [32, 47, 62] (l.drop 1)), ats, ⟨#[]⟩⟩, false, q.drop 1)
      else if q.take 2 = [47, 62] then some (⟨1, bytesOf (tillL [32, 47, 62] (l.drop 1)), ats, ⟨#[]⟩⟩, true, q.drop 2)
      else none

def flushL (text : List UInt8) (out : List Tk) : List Tk := if text = [] then out else out ++ [⟨3, ⟨#[]⟩, [], bytesOf text⟩]

/-- The tokens of what is left, behind a text and tokens that were read. -/
def lexL : Nat → List UInt8 → List UInt8 → List Tk → Option (List Tk)
  | 0, _, _, _ => none
  | f + 1, l, text, out =>
    if ¬ l = [] ∧ ¬ l.head? = some 60 then
      match unescL (tillL [60, 62] l) with
      | none => none
      | some v => if (restL [60, 62] l).head? = some 62 then none else lexL f (restL [60, 62] l) (text ++ v) out
    else
      match remL l with
      | some r => lexL f r text out
      | none =>
        if l = [] then some (flushL text out)
        else
          match tagL l with
          | none => none
          | some (t, c, r) => lexL f r [] (flushL text out ++ (if c then [t, ⟨2, t.name, [], ⟨#[]⟩⟩] else [t]))

/-- What Tokens answers. -/
noncomputable def toksF (l : List UInt8) : Option (List Tk) :=
  if l.length ≤ 4000 ∧ plainL l = true then
    match lexL (l.length + 1) l [] [] with
    | none => none
    | some out => if (∀ t ∈ out, tokB t = true) ∧ out.length ≤ 120 then some out else none
  else none

end Go.Proofs.YteninofjeidljaaGreat

namespace Go.Proofs.YteninofjeidljaaGreat

open Go.RowKit

set_option linter.unusedVariables false

set_option linter.unusedSimpArgs false

theorem drop_at (s : ByteArray) (j : Nat) (h : j < s.size) : s.data.toList.drop j = s[j] :: s.data.toList.drop (j + 1) := by
  have h' : j < s.data.toList.length := h
  rw [List.drop_eq_getElem_cons h']
  rfl

theorem drop_end (s : ByteArray) (j : Nat) (h : s.size ≤ j) : s.data.toList.drop j = [] := List.drop_eq_nil_of_le h

theorem contains_at (g : ByteArray) (c : UInt8) (k : Nat) (h : k < g.size) (e : g[k] = c) : g.data.toList.contains c = true := by
  rw [List.contains_iff_mem, ← e]
  have h' : k < g.data.toList.length := h
  exact List.mem_iff_getElem.2 ⟨k, h', rfl⟩

theorem contains_not (g : ByteArray) (c : UInt8) (h : ∀ k (hk : k < g.size), ¬ g[k] = c) : g.data.toList.contains c = false := by
  cases e : g.data.toList.contains c
  · rfl
  · rw [List.contains_iff_mem] at e
    obtain ⟨k, hk, ek⟩ := List.mem_iff_getElem.1 e
    exact absurd ek (h k hk)

set_option maxHeartbeats 2000000 in
theorem cTill (s g : ByteArray) (p : Nat) (w : World) (hp : p ≤ s.size) (hs : s.size ≤ 1048576) (hg : g.size ≤ 100) :
    Calls Tryz.prog 112 #[.string s, .int .i64 p, .string g] w fun e w' => e = .returned (.int .i64 ((p + (tillL g.data.toList (s.data.toList.drop p)).length : Nat) : Int)) ∧ Below w.heap.size w w' := by
  obtain ⟨V, hV⟩ : ∃ V, p + (tillL g.data.toList (s.data.toList.drop p)).length = V := ⟨_, rfl⟩
  have HV := hid hV
  rw [hV]
  clear hV
  go_enter Tryz.func112, Tryz.ntmps112
  go_wp2
  go_loopw [1] (fun x wr => ∃ j : Nat, x = .int .i64 (j : Int) ∧ j ≤ s.size ∧ Hid (j + (tillL g.data.toList (s.data.toList.drop j)).length = V) ∧ Hid (Below w.heap.size w wr)) (fun x _ => s.size - (intOf x).toNat)
  case atStart => exact ⟨p, rfl, hp, HV.out, Below.refl _ _⟩
  case round =>
    obtain ⟨j, rfl, hj, HJ, HW⟩ := hrel
    by_cases hlt : j < s.size
    · have HD := hid (drop_at s j hlt)
      go_wp2_with fail
      go_loopw [7] (fun x wr => ∃ k : Nat, x = .int .i64 (k : Int) ∧ k ≤ g.size ∧ Hid (∀ m (hm : m < g.size), m < k → ¬ g[m] = s[j]) ∧ Hid (Below w.heap.size w wr)) (fun x _ => g.size - (intOf x).toNat)
      case atStart => exact ⟨0, rfl, Nat.zero_le _, fun m _ h => by omega, HW.out⟩
      case round =>
        clear HW
        obtain ⟨k, rfl, hk, HO, HW⟩ := hrel
        by_cases hkl : k < g.size
        · by_cases hq : g[k] = s[j]
          · have HC := hid (contains_at g s[j] k hkl hq)
            have HE := hid (show j = V by
              have := HJ.out
              rw [HD.out, till_cons_in HC.out] at this
              simpa using this)
            have hd : ((g[k].toNat : Int) == (s[j].toNat : Int)) = true := by rw [hq]; simp
            clear hq
            go_wp2_with fail
            go_quiet (fail)
            go_wp2_with fail
            go_ret
            exact ⟨by rw [← HE.out]; rfl, below_drewN HW.out _⟩
          · have hd : ((g[k].toNat : Int) == (s[j].toNat : Int)) = false := by
              rw [beq_eq_false_iff_ne]
              intro e
              exact hq (UInt8.toNat_inj.1 (by omega))
            have HO2 := hid (show ∀ m (hm : m < g.size), m < k + 1 → ¬ g[m] = s[j] from fun m hm hmk => by
              rcases Nat.lt_or_eq_of_le (Nat.le_of_lt_succ hmk) with h' | h'
              · exact HO.out m hm h'
              · subst h'; exact hq)
            clear hq
            go_wp2_with fail
            go_quiet (fail)
            go_wp2_with fail
            go_roundw
            case rel => exact ⟨k + 1, by go_num, by omega, HO2.out, below_drewN HW.out _⟩
            case measure => simp [intOf]; omega
        · have hke : k = g.size := by omega
          subst hke
          have HC := hid (contains_not g s[j] (fun m hm => HO.out m hm hm))
          have HJ2 := hid (show (j + 1) + (tillL g.data.toList (s.data.toList.drop (j + 1))).length = V by
            have := HJ.out
            rw [HD.out, till_cons_out HC.out, List.length_cons] at this
            omega)
          go_wp2_with fail
          go_roundw
          case rel => exact ⟨j + 1, by go_num, by omega, HJ2.out, HW.out⟩
          case measure => simp [intOf]; omega
    · have hje : j = s.size := by omega
      have HE := hid (show j = V by
        have := HJ.out
        rw [drop_end s j (by omega)] at this
        exact this)
      clear hje
      go_wp2_with fail
      go_ret
      exact ⟨by rw [← HE.out]; rfl, HW.out⟩

theorem slS (s : ByteArray) (x y : Int) (a b : Nat) (hx : x = a) (hy : y = b) (h1 : a ≤ b) (h2 : b ≤ s.size) :
    ∀ W, (Instr.slice 9 (.string s) (some (.int .i64 x)) (some (.int .i64 y)) none).run Tryz.prog W = .ok (.string (s.extract a b)) W := by
  intro W
  subst hx hy
  have := run_slice_string (P := Tryz.prog) W 9 s .i64 .i64 (a : Int) (b : Int) Tryz.underlying9 (by omega) (by omega) (by omega)
  simpa using this

theorem ext_eq (s : ByteArray) (t : List UInt8) (a b : Nat) : ((s.extract a b).toList == t) = decide ((s.data.toList.drop a).take (b - a) = t) ∧ ((s.extract a b).toList != t) = !decide ((s.data.toList.drop a).take (b - a) = t) := by
  have e : (s.extract a b).toList = (s.data.toList.drop a).take (b - a) := by
    rw [ByteArray.toList_eq, ByteArray.data_extract, Array.toList_extract, List.extract_eq_take_drop]
  rw [e]
  have h : ((s.data.toList.drop a).take (b - a) == t) = decide ((s.data.toList.drop a).take (b - a) = t) := by
    by_cases h : (s.data.toList.drop a).take (b - a) = t
    · rw [decide_eq_true h]; simpa using h
    · rw [decide_eq_false h]; simpa using h
  exact ⟨h, by rw [bne, h]⟩

theorem scanR_step {l : List UInt8} (h : 2 < l.length) (hn : ¬ l.take 2 = [45, 45]) : scanR l = scanR (l.drop 1) := by
  match l, h with
  | a :: b :: c :: r, _ =>
    rw [scanR, if_neg (fun x => hn (by simp [x.1, x.2]))]
    rfl

theorem scanR_yes {l : List UInt8} (h : 2 < l.length) (hn : l.take 2 = [45, 45]) (he : l[2] = 62) : scanR l = some (l.drop 3) := by
  match l, h with
  | a :: b :: c :: r, _ =>
    simp at hn
    have hc : c = 62 := he
    rw [scanR, if_pos hn, if_pos hc]
    rfl

theorem scanR_no {l : List UInt8} (h : 2 < l.length) (hn : l.take 2 = [45, 45]) (he : ¬ l[2] = 62) : scanR l = none := by
  match l, h with
  | a :: b :: c :: r, _ =>
    simp at hn
    have hc : ¬ c = 62 := he
    rw [scanR, if_pos hn, if_neg hc]

theorem scanR_short {l : List UInt8} (h : ¬ 2 < l.length) : scanR l = none := by
  match l with
  | [] => rfl
  | [_] => rfl
  | [_, _] => rfl
  | a :: b :: c :: r => simp at h

/-- What l7Remark answers: the place behind, or -1. -/
def remI (s : ByteArray) (p : Nat) : Int := match remL (s.data.toList.drop p) with | some r => ((s.size - r.length : Nat) : Int) | none => -1

def scanI (s : ByteArray) (j : Nat) : Int := match scanR (s.data.toList.drop j) with | some r => ((s.size - r.length : Nat) : Int) | none => -1

set_option maxRecDepth 8000 in
set_option maxHeartbeats 2000000 in
theorem cRemark (s : ByteArray) (p : Nat) (w : World) (hp : p ≤ s.size) (hs : s.size ≤ 1048576) :
    Calls Tryz.prog 114 #[.string s, .int .i64 p] w fun e w' => e = .returned (.int .i64 (remI s p)) ∧ w' = w := by
  obtain ⟨V, hV⟩ : ∃ V, remI s p = V := ⟨_, rfl⟩
  have HV := hid hV
  rw [hV]
  clear hV
  have hlen : s.data.toList.length = s.size := rfl
  by_cases h4 : s.size < p + 4
  · have HW := hid (show V = -1 by
      rw [← HV.out]
      unfold remI remL
      rw [if_neg (fun e => by have := congrArg List.length e; simp at this; omega)])
    have hd : decide ((s.size : Int) < (p : Int) + 4) = true := decide_eq_true (by omega)
    go_enter Tryz.func114, Tryz.ntmps114
    go_wp2_with fail
    go_ret
    exact ⟨by rw [HW.out]; rfl, rfl⟩
  · have hd : decide ((s.size : Int) < (p : Int) + 4) = false := decide_eq_false (by omega)
    obtain ⟨E, E'⟩ := ext_eq s [60, 33, 45, 45] p (p + 4)
    rw [show p + 4 - p = 4 by omega] at E E'
    have hsl := slS s (p : Int) ((p : Int) + 4) p (p + 4) rfl (by omega) (by omega) (by omega)
    by_cases hq : (s.data.toList.drop p).take 4 = [60, 33, 45, 45]
    · have HS := hid (show scanI s (p + 4) = V by
        rw [← HV.out]
        unfold remI remL scanI
        rw [if_pos hq, List.drop_drop])
      rw [decide_eq_true hq] at E E'
      clear hq
      go_enter Tryz.func114, Tryz.ntmps114
      go_wp2_with fail
      go_loop [5] (fun x => ∃ j : Nat, x = .int .i64 (j : Int) ∧ j ≤ s.size ∧ Hid (scanI s j = V)) (fun x => s.size - (intOf x).toNat)
      case atStart => exact ⟨p + 4, by go_num, by omega, HS.out⟩
      case round =>
        clear E E' hd h4 hsl
        obtain ⟨j, rfl, hj, HJ⟩ := hrel
        by_cases hlt : j + 2 < s.size
        · have hlt' : 2 < (s.data.toList.drop j).length := by rw [List.length_drop, hlen]; omega
          have hd : decide ((j : Int) + 2 < (s.size : Int)) = true := decide_eq_true (by omega)
          obtain ⟨E, E'⟩ := ext_eq s [45, 45] j (j + 2)
          rw [show j + 2 - j = 2 by omega] at E E'
          have hsl := slS s (j : Int) ((j : Int) + 2) j (j + 2) rfl (by omega) (by omega) (by omega)
          have hg : (s.data.toList.drop j)[2]'hlt' = s[j + 2] := by
            rw [List.getElem_drop]
            rfl
          by_cases hq : (s.data.toList.drop j).take 2 = [45, 45]
          · rw [decide_eq_true hq] at E E'
            by_cases hc : s[j + 2] = 62
            · have HW := hid (show (j : Int) + 3 = V by
                rw [← HJ.out]
                unfold scanI
                rw [scanR_yes hlt' hq (by rw [hg]; exact hc), List.drop_drop]
                simp only [List.length_drop, hlen]
                omega)
              have hx : ((s[j + 2].toNat : Int) == 62) = true := by rw [hc]; rfl
              clear hq hc hg hlt'
              go_wp2_with fail
              go_ret
              exact ⟨by rw [← HW.out]; rfl, rfl⟩
            · have HW := hid (show (-1 : Int) = V by
                rw [← HJ.out]
                unfold scanI
                rw [scanR_no hlt' hq (by rw [hg]; exact hc)])
              have hx : ((s[j + 2].toNat : Int) == 62) = false := by
                rw [beq_eq_false_iff_ne]
                intro e
                exact hc (UInt8.toNat_inj.1 (by show s[j + 2].toNat = 62; omega))
              clear hq hc hg hlt'
              go_wp2_with fail
              go_ret
              exact ⟨by rw [← HW.out]; rfl, rfl⟩
          · rw [decide_eq_false hq] at E E'
            have HN := hid (show scanI s (j + 1) = V by
              rw [← HJ.out]
              unfold scanI
              rw [scanR_step hlt' hq, List.drop_drop])
            clear hq hg hlt'
            go_wp2_with fail
            go_round
            case rel => exact ⟨j + 1, by go_num, by omega, HN.out⟩
            case measure => simp [intOf]; omega
        · have hd : decide ((j : Int) + 2 < (s.size : Int)) = false := decide_eq_false (by omega)
          have HW := hid (show (-1 : Int) = V by
            rw [← HJ.out]
            unfold scanI
            rw [scanR_short (by rw [List.length_drop, hlen]; omega)])
          go_wp2_with fail
          go_ret
          exact ⟨by rw [← HW.out]; rfl, rfl⟩
    · have HW := hid (show V = -1 by
        rw [← HV.out]
        unfold remI remL
        rw [if_neg hq])
      rw [decide_eq_false hq] at E E'
      clear hq
      go_enter Tryz.func114, Tryz.ntmps114
      go_wp2_with fail
      go_ret
      exact ⟨by rw [HW.out]; rfl, rfl⟩

end Go.Proofs.YteninofjeidljaaGreat
