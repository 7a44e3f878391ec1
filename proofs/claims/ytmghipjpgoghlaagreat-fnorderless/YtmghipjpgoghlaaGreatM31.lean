/- A branch is a tree by itself (mathematics alone). What a branch says is what stood there (mathematics alone). What was put in is there (mathematics alone). -/
import Derived.Test.YtmghipjpgoghlaaGreatM16
import Derived.Test.YtmghipjpgoghlaaGreatM13
namespace Go.Proofs.YtmghipjpgoghlaaGreat
open Go.RowKit
set_option linter.unusedVariables false

theorem drop_none {p : Nat → Bool} : ∀ {l : List Nat}, l.dropWhile p = [] → ∀ x ∈ l, p x = true
  | [], _, x, hx => absurd hx List.not_mem_nil
  | y :: l, h, x, hx => by
    rw [List.dropWhile_cons] at h
    split at h
    · rename_i hy
      rcases List.mem_cons.1 hx with rfl | h'
      · exact hy
      · exact drop_none h x h'
    · cases h

section
variable {ts : List Tk} {k : Nat}

theorem branch_at (hk : k < ts.length) {j : Nat} (hj : k + j < endN ts k) {t : Tk} (ht : ts[k + j]? = some t) : (branchL ts k)[j]? = some (shK (if j = 0 then -1 else t.kind - (k : Int)) t) := by
  have h := endN_le hk
  unfold branchL
  rw [segN_get _ (by omega) j (by omega) t ht]
  unfold brF
  by_cases e : j = 0
  · subst e
    rw [if_pos (Nat.add_zero k), if_pos rfl]
  · rw [if_neg (by omega), if_neg e]

theorem branch_get (hk : k < ts.length) {j : Nat} (hj : k + j < endN ts k) : ∃ (h1 : k + j < ts.length) (h2 : j < (branchL ts k).length), (branchL ts k)[j] = shK (if j = 0 then -1 else ts[k + j].kind - (k : Int)) ts[k + j] := by
  have h := endN_le hk
  have h1 : k + j < ts.length := by omega
  have h2 : j < (branchL ts k).length := by rw [branchL_len hk]; omega
  refine ⟨h1, h2, ?_⟩
  have e := branch_at hk hj (List.getElem?_eq_getElem h1)
  rw [List.getElem?_eq_getElem h2] at e
  exact Option.some.inj e

theorem branch_par (hk : k < ts.length) {j : Nat} (hj : k + j < endN ts k) : parI (branchL ts k) j = if j = 0 then -1 else parI ts (k + j) - (k : Int) := by
  have h := endN_le hk
  have ht := List.getElem?_eq_getElem (show k + j < ts.length by omega)
  unfold parI
  rw [branch_at hk hj ht, ht]
  rfl

/-- What is open within, and what is open around. -/
theorem chain_branch (hT : TreeP ts) (hk : k < ts.length) : ∀ j, k + j < endN ts k → chainF ts (k + j + 1) = (chainF (branchL ts k) (j + 1)).map (fun x => k + x) ++ (chainF ts (k + 1)).tail
  | 0, _ => by
    show chainF ts (k + 1) = (List.map (fun x => k + x) [0]) ++ _
    obtain ⟨r, e⟩ := chain_head ts k
    rw [e]
    rfl
  | j + 1, hj => by
    have hle := endN_le hk
    have ih := chain_branch hT hk j (by omega)
    have hup := hT.up (k + (j + 1)) (by omega)
    have hin : (k : Int) ≤ parI ts (k + (j + 1)) := endN_in hk (by omega) hj
    rcases hup with h0 | ⟨p, hp, hpp, _⟩
    · omega
    · have hpk : k ≤ p := by omega
      have e1 : chainF ts (k + (j + 1) + 1) = (k + (j + 1)) :: (chainF ts (k + j + 1)).dropWhile (fun (x : Nat) => !decide ((x : Int) = parI ts (k + (j + 1)))) := rfl
      have e2 : chainF (branchL ts k) (j + 1 + 1) = (j + 1) :: (chainF (branchL ts k) (j + 1)).dropWhile (fun (x : Nat) => !decide ((x : Int) = parI (branchL ts k) (j + 1))) := rfl
      have e3 : parI (branchL ts k) (j + 1) = parI ts (k + (j + 1)) - (k : Int) := by rw [branch_par hk hj, if_neg (by omega)]
      have hR : ∀ x ∈ (chainF ts (k + 1)).tail, x < k := by
        intro x hx
        obtain ⟨r, e⟩ := chain_head ts k
        rw [e] at hx
        have hL := (hT.linked k hk).1
        rw [e] at hL
        match r, hL, hx with
        | y :: r', hL, hx =>
          have h1 := hL.2.1
          have h2 := hL.tail.le x hx
          omega
      have hm : p ∈ (chainF (branchL ts k) (j + 1)).map (fun x => k + x) := by
        have hp' : p ∈ chainF ts (k + j + 1) := hp
        rw [ih] at hp'
        rcases List.mem_append.1 hp' with h' | h'
        · exact h'
        · have := hR p h'; omega
      rw [e1, e2, ih, List.map_cons, List.cons_append, e3]
      congr 1
      rw [List.dropWhile_append, List.dropWhile_map]
      have ef : ((fun (x : Nat) => !decide ((x : Int) = parI ts (k + (j + 1)))) ∘ fun x => k + x) = fun (x : Nat) => !decide ((x : Int) = parI ts (k + (j + 1)) - (k : Int)) := by
        funext x
        show (!decide (((k + x : Nat) : Int) = _)) = _
        congr 1
        apply decide_eq_decide.2
        omega
      rw [ef, if_neg]
      intro hemp
      obtain ⟨q, hq, e⟩ := List.mem_map.1 hm
      have hne : (chainF (branchL ts k) (j + 1)).dropWhile (fun (x : Nat) => !decide ((x : Int) = parI ts (k + (j + 1)) - (k : Int))) = [] := by
        simpa using hemp
      have hall := drop_none hne q hq
      simp only [Bool.not_eq_true', decide_eq_false_iff_not] at hall
      apply hall
      omega

/-- A branch is a tree by itself. -/
theorem branch_tree (hT : TreeP ts) (hk : k < ts.length) (he : elN ts k) : TreeP (branchL ts k) := by
  have hle := endN_le hk
  have hlen := branchL_len hk
  have h50 := hT.2.1
  refine ⟨by omega, by omega, by rw [branch_par hk (by omega)]; rfl, ?_, fun j hj => ?_⟩
  · obtain ⟨h1, h2, e⟩ := branch_get hk (j := 0) (by omega)
    refine ⟨h2, ?_⟩
    rw [e]
    exact he.2
  · have hje : k + j < endN ts k := by omega
    obtain ⟨h1, h2, e⟩ := branch_get hk hje
    obtain ⟨⟨_, n1⟩, n2, n3, n4⟩ := hT.2.2.2.2 (k + j) h1
    refine ⟨⟨h2, ?_⟩, ?_, ?_, ?_⟩
    · rw [e]
      exact n1
    · by_cases h0 : j = 0
      · exact .inl h0
      · right
        obtain ⟨i, rfl⟩ : ∃ i, j = i + 1 := ⟨j - 1, by omega⟩
        have hin : (k : Int) ≤ parI ts (k + (i + 1)) := endN_in hk (by omega) hje
        rcases n2 with n2 | ⟨p, p1, p2, p3⟩
        · omega
        · have hc := chain_branch hT hk i (by omega)
          have p1' : p ∈ chainF ts (k + i + 1) := p1
          rw [hc] at p1'
          have hR : ∀ x ∈ (chainF ts (k + 1)).tail, x < k := by
            intro x hx
            obtain ⟨r, e⟩ := chain_head ts k
            rw [e] at hx
            have hL := (hT.linked k hk).1
            rw [e] at hL
            match r, hL, hx with
            | y :: r', hL, hx =>
              have h1 := hL.2.1
              have h2 := hL.tail.le x hx
              omega
          rcases List.mem_append.1 p1' with h' | h'
          · obtain ⟨q, hq, rfl⟩ := List.mem_map.1 h'
            have hqi : k + q < k + (i + 1) := by
              have := (hT.linked (k + i) (by omega)).2 (k + q) (by rw [hc]; exact List.mem_append.2 (.inl h'))
              omega
            refine ⟨q, hq, by rw [branch_par hk hje, if_neg (by omega)]; omega, ?_⟩
            obtain ⟨g1, g2, g3⟩ := branch_get hk (j := q) (by omega)
            obtain ⟨_, p4⟩ := p3
            exact ⟨g2, by rw [g3]; exact p4⟩
          · have := hR p h'
            omega
    · have hc := chain_branch hT hk j hje
      have := congrArg List.length hc
      rw [List.length_append, List.length_map] at this
      omega
    · rintro ⟨g1, g2, g3, g4, g5⟩
      obtain ⟨i, rfl⟩ : ∃ i, j = i + 1 := ⟨j - 1, by omega⟩
      obtain ⟨m1, m2, m3⟩ := branch_get hk (j := i) (by omega)
      have g4' : ((branchL ts k)[i]).name.size = 0 := g4
      have g5' : ((branchL ts k)[i]).kind = ((branchL ts k)[i + 1]).kind := g5
      rw [m3] at g4' g5'
      rw [e] at g3 g5'
      have hi0 : ¬ i = 0 := by
        intro h0
        subst h0
        obtain ⟨_, he2⟩ := he
        exact he2 g4'
      refine n4 ⟨h1, by omega, g3, ?_, ?_⟩
      · exact g4'
      · have h6 : (if i = 0 then -1 else ts[k + i].kind - (k : Int)) = (if i + 1 = 0 then -1 else ts[k + (i + 1)].kind - (k : Int)) := g5'
        rw [if_neg hi0, if_neg (by omega)] at h6
        show ts[k + i].kind = ts[k + (i + 1)].kind
        omega

end

end Go.Proofs.YtmghipjpgoghlaaGreat

namespace Go.Proofs.YtmghipjpgoghlaaGreat
open Go.RowKit
set_option linter.unusedVariables false

section
variable {ts : List Tk} {k : Nat}

theorem kids_branch (hT : TreeP ts) (hk : k < ts.length) : kidsN ts k = (kidsN (branchL ts k) 0).map (fun x => k + x) := by
  have hle := endN_le hk
  have hlen := branchL_len hk
  rw [kidsN_from hk, kidsN_from (ts := branchL ts k) (k := 0) (by omega), kidsFrom_split (b := endN ts k) (by omega) hle.2, kidsFrom_none (fun i h1 h2 => no_kid hT hk h1 h2), List.append_nil, hlen]
  unfold kidsFrom
  have e : List.range' (k + 1) (endN ts k - (k + 1)) = (List.range' (0 + 1) (endN ts k - k - (0 + 1))).map (fun x => k + x) := by
    rw [List.map_add_range', show endN ts k - k - (0 + 1) = endN ts k - (k + 1) by omega]
  rw [e, List.filter_map]
  congr 1
  refine List.filter_congr fun i hi => ?_
  rw [List.mem_range'_1] at hi
  show decide (parI ts (k + i) = (k : Int)) = decide (parI (branchL ts k) i = ((0 : Nat) : Int))
  rw [branch_par hk (by omega), if_neg (by omega)]
  apply decide_eq_decide.2
  omega

theorem text_branch (hk : k < ts.length) {j : Nat} (hj : k + j < endN ts k) : textAt (branchL ts k) j = textAt ts (k + j) := by
  obtain ⟨h1, h2, e⟩ := branch_get hk hj
  rw [textAt_at h2, textAt_at h1, e]
  rfl

theorem join_branch (hk : k < ts.length) : ∀ (l : List Nat), (∀ j ∈ l, k + j < endN ts k) → ∀ s : ByteArray, (l.map (fun x => k + x)).foldl (fun s i => s ++ textAt ts i) s = l.foldl (fun s i => s ++ textAt (branchL ts k) i) s
  | [], _, s => rfl
  | j :: l, h, s => by
    show (l.map (fun x => k + x)).foldl _ (s ++ textAt ts (k + j)) = l.foldl _ (s ++ textAt (branchL ts k) j)
    rw [text_branch hk (h j (List.mem_cons_self ..))]
    exact join_branch hk l (fun i hi => h i (List.mem_cons_of_mem _ hi)) _

theorem hasB_of (hT : TreeP ts) (hk : k < ts.length) : hasB ts (k : Int) = true := by
  unfold hasB
  rw [treeB_t hT, decide_eq_true (show (0 : Int) ≤ (k : Int) ∧ (k : Int) < (ts.length : Int) from ⟨by omega, by omega⟩)]
  rfl

/-- What a branch says is what stood there. -/
theorem branch_text (hT : TreeP ts) (hk : k < ts.length) (he : elN ts k) : textI (branchL ts k) 0 = textI ts (k : Int) := by
  have hb := branch_tree hT hk he
  have hlen := branchL_len hk
  have h1 : textI (branchL ts k) 0 = joinT (branchL ts k) (kidsN (branchL ts k) 0) := by
    unfold textI
    rw [if_pos (show hasB (branchL ts k) 0 = true from hasB_of (k := 0) hb hb.1)]
    rfl
  have h2 : textI ts (k : Int) = joinT ts (kidsN ts k) := by
    unfold textI
    rw [if_pos (hasB_of hT hk)]
    rfl
  rw [h1, h2, kids_branch hT hk]
  unfold joinT
  exact (join_branch hk _ (fun j hj => by have := kidsN_lt hj; omega) _).symm

end

end Go.Proofs.YtmghipjpgoghlaaGreat

namespace Go.Proofs.YtmghipjpgoghlaaGreat
open Go.RowKit
set_option linter.unusedVariables false

section
variable {ts br : List Tk} {e : Nat} {par : Int}

/-- Who is whose parent, in what is put in. -/
def inF (e : Nat) (par : Int) (i : Nat) (t : Tk) : Int := if i = 0 then par else t.kind + (e : Int)

/-- .. and behind it. -/
def outF (e m : Nat) (t : Tk) : Int := if (e : Int) ≤ t.kind then t.kind + (m : Int) else t.kind

theorem put_low (he : e ≤ ts.length) {i : Nat} (hi : i < e) {t : Tk} (ht : ts[i]? = some t) : (putL ts e par br)[i]? = some t := by
  unfold putL
  have h1 : (segN (fun _ t => t.kind) ts 0 e).length = e := segN_len _ (by omega)
  rw [List.append_assoc, List.getElem?_append_left (by rw [h1]; exact hi), segN_get _ (by omega) i hi t (by rw [Nat.zero_add]; exact ht)]
  rfl

theorem put_mid (he : e ≤ ts.length) {i : Nat} (hi : i < br.length) {t : Tk} (ht : br[i]? = some t) : (putL ts e par br)[e + i]? = some (shK (inF e par i t) t) := by
  unfold putL
  have h1 : (segN (fun _ t => t.kind) ts 0 e).length = e := segN_len _ (by omega)
  have h2 : (segN (fun i t => if i = 0 then par else t.kind + (e : Int)) br 0 br.length).length = br.length := segN_len _ (by omega)
  rw [List.getElem?_append_left (by rw [List.length_append, h1, h2]; omega), List.getElem?_append_right (by rw [h1]; omega), h1, show e + i - e = i by omega, segN_get _ (by omega) i hi t (by rw [Nat.zero_add]; exact ht), Nat.zero_add]
  rfl

theorem put_high (he : e ≤ ts.length) {i : Nat} (hi : e ≤ i) (hn : i < ts.length) {t : Tk} (ht : ts[i]? = some t) : (putL ts e par br)[i + br.length]? = some (shK (outF e br.length t) t) := by
  unfold putL
  have h1 : (segN (fun _ t => t.kind) ts 0 e).length = e := segN_len _ (by omega)
  have h2 : (segN (fun i t => if i = 0 then par else t.kind + (e : Int)) br 0 br.length).length = br.length := segN_len _ (by omega)
  rw [List.getElem?_append_right (by rw [List.length_append, h1, h2]; omega), List.length_append, h1, h2, show i + br.length - (e + br.length) = i - e by omega, segN_get _ (by omega) (i - e) (by omega) t (by rw [show e + (i - e) = i by omega]; exact ht)]
  rfl

/-- What was put in ends where it ended. -/
theorem put_end (he : e ≤ ts.length) (hB : TreeP br) (hn : ∀ t, ts[e]? = some t → t.kind < (e : Int)) : endN (putL ts e par br) e = e + br.length := by
  have hl : (putL ts e par br).length = ts.length + br.length := putL_len he
  have hb1 := hB.1
  refine endN_is (by omega) (by omega) (fun j h1 h2 => ?_) ?_
  · obtain ⟨i, rfl⟩ : ∃ i, j = e + i := ⟨j - e, by omega⟩
    have hi : i < br.length := by omega
    have ht := List.getElem?_eq_getElem hi
    unfold parI
    rw [put_mid he hi ht]
    show (e : Int) ≤ inF e par i br[i]
    unfold inF
    rw [if_neg (by omega)]
    rcases (hB.2.2.2.2 i hi).2.1 with h0 | ⟨p, _, hp, _⟩
    · omega
    · rw [parI_at hi] at hp
      omega
  · by_cases h : e = ts.length
    · left; omega
    · right
      have ht := List.getElem?_eq_getElem (show e < ts.length by omega)
      unfold parI
      rw [put_high he (Nat.le_refl _) (by omega) ht]
      have := hn _ ht
      show outF e br.length ts[e] < (e : Int)
      unfold outF
      rw [if_neg (by omega)]
      exact this

/-- What was put in is there. -/
theorem put_branch (he : e ≤ ts.length) (hB : TreeP br) (hn : ∀ t, ts[e]? = some t → t.kind < (e : Int)) : branchL (putL ts e par br) e = br := by
  have hl : (putL ts e par br).length = ts.length + br.length := putL_len he
  have hb1 := hB.1
  have hek : e < (putL ts e par br).length := by omega
  have hend := put_end (par := par) he hB hn
  have hlen := branchL_len hek
  rw [hend] at hlen
  apply List.ext_getElem?
  intro j
  by_cases hj : j < br.length
  · have ht := List.getElem?_eq_getElem hj
    rw [branch_at hek (j := j) (by rw [hend]; omega) (put_mid he hj ht), ht]
    congr 1
    unfold shK inF
    by_cases h0 : j = 0
    · subst h0
      rw [if_pos rfl]
      have := hB.2.2.1
      rw [parI_at hj] at this
      rw [← this]
    · rw [if_neg h0, if_neg h0]
      have e1 : br[j].kind + (e : Int) - (e : Int) = br[j].kind := by omega
      show (⟨br[j].kind + (e : Int) - (e : Int), br[j].name, br[j].attrs, br[j].text⟩ : Tk) = br[j]
      rw [e1]
  · rw [List.getElem?_eq_none (by omega), List.getElem?_eq_none (by omega)]

end

end Go.Proofs.YtmghipjpgoghlaaGreat
