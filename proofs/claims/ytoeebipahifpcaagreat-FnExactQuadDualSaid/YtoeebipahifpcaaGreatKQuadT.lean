/- Merged out of: XQuadM, XTrS, XQuadS, XQuadT. -/
import Derived.Test.YtoeebipahifpcaaGreatSumM
import Derived.Test.YtoeebipahifpcaaGreatKMatS
import Derived.Test.YtoeebipahifpcaaGreatOrdS
import Derived.Test.YtoeebipahifpcaaGreatKMirrorS
import Derived.Test.YtoeebipahifpcaaGreatKStrT
import Derived.Deep.AppendLies
import Derived.Deep.CutRange
import Derived.Deep.CutBlock
import Derived.Test.YtoeebipahifpcaaGreatKSignS
section
/- Quadratic trees as mathematics: which letters tell them, and their order. No walk here. -/
namespace Go.Proofs.YtoeebipahifpcaaGreat

/-- Trees in ascending order, none twice. -/
def AscT (us : List T) : Prop := us.Pairwise (fun a b => ordT a b < 0)

/-- All trees of a list, the greater ones first. -/
def downT (ts : List T) : List T := (canon (ts.map fun t => ((1 : Int), t))).map (·.2)

theorem cf_map_s (s : T → Int) : ∀ (ps : List Tm), (∀ p ∈ ps, p.2.wf) → ∀ u : T, u.wf → cf (ps.map fun p => (s p.2 * p.1, p.2)) u = s u * cf ps u
  | [], _, u, _ => by simp [cf]
  | p :: ps, h, u, hu => by
    have ih := cf_map_s s ps (fun q hq => h q (by simp [hq])) u hu
    simp only [List.map_cons, cf, ih]
    by_cases e : ordT p.2 u = 0
    · have := ordT_zero (h p (by simp)) hu e
      rw [if_pos e, if_pos e, this, Int.mul_add]
    · rw [if_neg e, if_neg e, Int.zero_add, Int.zero_add]

theorem cf_ones_le : ∀ (ts : List T), (∀ t ∈ ts, t.wf) → ts.Nodup → ∀ u, u ∈ ts → cf (ts.map fun t => ((1 : Int), t)) u = 1
  | [], _, _, u, hu => by simp at hu
  | t :: ts, h, hn, u, hu => by
    have hn' := List.nodup_cons.1 hn
    simp only [List.map_cons, cf]
    rcases List.mem_cons.1 hu with e | e
    · subst e
      rw [if_pos (isCmp_ordT.self _), cf_none]
      · rfl
      · intro p hp h0
        obtain ⟨q, hq, rfl⟩ := List.mem_map.1 hp
        have := ordT_zero (h q (by simp [hq])) (h u (by simp)) h0
        exact hn'.1 (this ▸ hq)
    · rw [cf_ones_le ts (fun q hq => h q (by simp [hq])) hn'.2 u e, if_neg]
      · rfl
      · intro h0
        have := ordT_zero (h t (by simp)) (h u (by simp [e])) h0
        exact hn'.1 (this ▸ e)

theorem NF.cf_mem : ∀ {l : List Tm}, NF l → ∀ p ∈ l, cf l p.2 = p.1
  | [], _, p, hp => by simp at hp
  | q :: l, h, p, hp => by
    rcases List.mem_cons.1 hp with e | e
    · subst e; exact h.cf_head
    · rw [cf, if_neg (by have := h.head p e; omega), h.tail.cf_mem p e]; omega

/-- The sum of trees with coefficients of their own. -/
theorem canon_signs {ts : List T} (hw : ∀ t ∈ ts, t.wf) (hn : ts.Nodup) (s : T → Int) (hs : ∀ t ∈ ts, s t % 101 ≠ 0) :
    canon (ts.map fun t => (s t, t)) = (downT ts).map fun t => (s t % 101, t) := by
  have hw1 : ∀ p ∈ ts.map (fun t => ((1 : Int), t)), p.2.wf := fun p hp => by
    obtain ⟨q, hq, rfl⟩ := List.mem_map.1 hp; exact hw q hq
  have hK := NF.canon hw1
  obtain ⟨K, hKe⟩ : ∃ K, K = canon (ts.map fun t => ((1 : Int), t)) := ⟨_, rfl⟩
  rw [← hKe] at hK
  have hmem : ∀ p ∈ K, p.2 ∈ ts ∧ p.1 = 1 := fun p hp => by
    have h1 : p.2 ∈ ts := by
      rw [hKe] at hp
      obtain ⟨q, hq, e⟩ := mem_canon hp
      obtain ⟨r, hr, rfl⟩ := List.mem_map.1 hq
      rw [e]; exact hr
    refine ⟨h1, ?_⟩
    have h2 := hK.cf_mem p hp
    have h3 := cf_ones_le ts hw hn p.2 h1
    have h4 := cf_canon (ts.map fun t => ((1 : Int), t)) p.2
    rw [← hKe] at h4
    have h5 := hK.2 p hp
    omega
  have hd : downT ts = K.map (·.2) := by rw [downT, hKe]
  rw [hd, List.map_map]
  symm
  apply canon_of
  · refine ⟨?_, ?_⟩
    · rw [List.pairwise_map]
      exact hK.1
    · intro p hp
      obtain ⟨q, hq, rfl⟩ := List.mem_map.1 hp
      have := hs q.2 (hmem q hq).1
      exact ⟨by simp; omega, by simp; omega, (hK.2 q hq).2.2⟩
  · intro p hp
    obtain ⟨q, hq, rfl⟩ := List.mem_map.1 hp; exact hw q hq
  · intro t
    have e1 : ts.map (fun t => (s t, t)) = (ts.map fun t => ((1 : Int), t)).map (fun p => (s p.2 * p.1, p.2)) := by simp [List.map_map]
    have e2 : (cf (K.map ((fun t => (s t % 101, t)) ∘ (·.2))) t - cf (K.map fun p => (s p.2, p.2)) t) % 101 = 0 := cf_map_congr K (fun p => (s p.2 % 101, p.2)) (fun p => (s p.2, p.2)) (fun p => ⟨rfl, by show (s p.2 % 101 - s p.2) % 101 = 0; omega⟩) t
    have e3 : (K.map fun p => (s p.2, p.2)) = K.map (fun p => (s p.2 * p.1, p.2)) := List.map_congr_left (fun p hp => by rw [(hmem p hp).2, Int.mul_one])
    have h4 := cf_canon (ts.map fun t => ((1 : Int), t)) t
    rw [← hKe] at h4
    rw [e3] at e2
    rw [e1]
    by_cases hx : ∃ u ∈ ts, ordT t u = 0
    · obtain ⟨u, hu, h0⟩ := hx
      rw [cf_congr _ h0] at e2 h4 ⊢
      rw [cf_congr _ h0] at e2 h4 ⊢
      rw [cf_map_s s K (fun p hp => (hK.2 p hp).2.2) u (hw u hu)] at e2
      rw [cf_map_s s _ hw1 u (hw u hu)]
      generalize cf (K.map ((fun t => (s t % 101, t)) ∘ (·.2))) u = a at *
      generalize cf K u = b at *
      generalize cf (ts.map fun t => ((1 : Int), t)) u = c at *
      obtain ⟨d, hd⟩ : ∃ d, b = c + 101 * d := ⟨(b - c) / 101, by omega⟩
      subst hd
      rw [Int.mul_add, Int.mul_left_comm] at e2
      omega
    · have z : ∀ (l : List Tm) (f : Tm → Int), (∀ p ∈ l, p.2 ∈ ts) → cf (l.map fun p => (f p, p.2)) t = 0 := fun l f hl => cf_none (fun p hp h0 => by
        obtain ⟨q, hq, rfl⟩ := List.mem_map.1 hp
        exact hx ⟨q.2, hl q hq, by have h1 : ordT q.2 t = 0 := h0; have := isCmp_ordT.anti q.2 t; omega⟩)
      have z1 := z K (fun p => s p.2 * p.1) (fun p hp => (hmem p hp).1)
      have z2 := z (ts.map fun t => ((1 : Int), t)) (fun p => s p.2 * p.1) (fun p hp => by obtain ⟨q, hq, rfl⟩ := List.mem_map.1 hp; exact hq)
      rw [z1] at e2
      rw [z2]
      omega

theorem downT_mem {ts : List T} {t : T} : t ∈ downT ts → t ∈ ts := fun h => by
  obtain ⟨p, hp, rfl⟩ := List.mem_map.1 h
  obtain ⟨q, hq, e⟩ := mem_canon hp
  obtain ⟨r, hr, rfl⟩ := List.mem_map.1 hq
  rw [e]; exact hr

theorem downT_desc {ts : List T} (hw : ∀ t ∈ ts, t.wf) : (downT ts).Pairwise (fun a b => 0 < ordT a b) := by
  have hw1 : ∀ p ∈ ts.map (fun t => ((1 : Int), t)), p.2.wf := fun p hp => by
    obtain ⟨q, hq, rfl⟩ := List.mem_map.1 hp; exact hw q hq
  rw [downT, List.pairwise_map]
  exact (NF.canon hw1).1

theorem downT_length_le (ts : List T) : (downT ts).length ≤ ts.length := by
  have := canon_length (ts.map fun t => ((1 : Int), t))
  rw [downT, List.length_map]; simpa using this

/-- What is sorted and has the same trees is this list, read from its end. -/
theorem asc_down {us ts : List T} (hu : AscT us) (hp : us.Perm ts) (hw : ∀ t ∈ ts, t.wf) : us.reverse = downT ts := by
  have hwu : ∀ t ∈ us, t.wf := fun t ht => hw t (hp.mem_iff.1 ht)
  have e : canon (ts.map fun t => ((1 : Int), t)) = us.reverse.map fun t => ((1 : Int), t) := by
    symm
    apply canon_of
    · refine ⟨?_, ?_⟩
      · rw [List.pairwise_map, List.pairwise_reverse]
        exact hu.imp (fun {a b} h => by have := isCmp_ordT.anti a b; simp; omega)
      · intro p hp'
        obtain ⟨q, hq, rfl⟩ := List.mem_map.1 hp'
        exact ⟨by simp, by simp, hwu q (by simpa using hq)⟩
    · intro p hp'
      obtain ⟨q, hq, rfl⟩ := List.mem_map.1 hp'
      exact hw q hq
    · intro t
      have := cf_perm ((us.reverse_perm.trans hp).map fun t => ((1 : Int), t)) t
      rw [this]; omega
  rw [downT, e, List.map_map]
  simp [Function.comp_def]

theorem AscT.put {us : List T} {t : T} {k : Nat} (h : AscT us) (hk : k ≤ us.length) (ha : ∀ j (hj : j < us.length), k ≤ j → ordT t us[j] < 0) (hb : ∀ h0 : 0 < k, 0 < ordT t (us[k - 1]'(by omega))) : AscT (us.take k ++ t :: us.drop k) := by
  unfold AscT at *
  rw [List.pairwise_append, List.pairwise_cons]
  have hs : (us.take k ++ us.drop k).Pairwise (fun a b => ordT a b < 0) := by rw [List.take_append_drop]; exact h
  rw [List.pairwise_append] at hs
  refine ⟨hs.1, ⟨?_, hs.2.1⟩, ?_⟩
  · intro x hx
    obtain ⟨j, hj, rfl⟩ := List.getElem_of_mem hx
    simp only [List.length_drop] at hj
    rw [List.getElem_drop]
    exact ha (k + j) (by omega) (by omega)
  · intro x hx y hy
    have hxt : ordT x t < 0 := by
      obtain ⟨j, hj, rfl⟩ := List.getElem_of_mem hx
      simp only [List.length_take] at hj
      rw [List.getElem_take]
      have h0 : 0 < k := by omega
      have h1 := hb h0
      have h2 := isCmp_ordT.anti t (us[k - 1]'(by omega))
      by_cases e : j = k - 1
      · subst e; omega
      · have h3 : ordT (us[j]'(by omega)) (us[k - 1]'(by omega)) < 0 := List.pairwise_iff_getElem.1 h j (k - 1) (by omega) (by omega) (by omega)
        exact isCmp_ordT.lt_le h3 (by omega)
    rcases List.mem_cons.1 hy with e | e
    · subst e; exact hxt
    · exact isCmp_ordT.lt_le hxt (by
        obtain ⟨j, hj, rfl⟩ := List.getElem_of_mem e
        simp only [List.length_drop] at hj
        rw [List.getElem_drop]
        have := ha (k + j) (by omega) (by omega)
        omega)

theorem perm_put {us ts : List T} {t : T} (k : Nat) (h : us.Perm ts) : (us.take k ++ t :: us.drop k).Perm (ts ++ [t]) := by
  have h1 : (us.take k ++ t :: us.drop k).Perm (t :: us) := by
    have := List.perm_middle (a := t) (l₁ := us.take k) (l₂ := us.drop k)
    rwa [List.take_append_drop] at this
  exact h1.trans ((List.Perm.cons t h).trans (List.perm_append_comm (l₁ := [t]) (l₂ := ts)))

/-! The quadratic trees. -/

def quadL (x y : UInt8) : T := .node x [.node y [.leaf, .leaf], .leaf]
def quadR (x y : UInt8) : T := .node x [.leaf, .node y [.leaf, .leaf]]
def quadTwo (x y : UInt8) : List T := [quadL x y, quadR x y]
def quadRow (cs : List UInt8) (x : UInt8) : List T := cs.flatMap (quadTwo x)
/-- In the order in which letters stand. -/
def quadAll (cs : List UInt8) : List T := cs.flatMap (quadRow cs)
/-- The sign in a pairing. -/
def quadSign : T → Int
  | .node _ (.leaf :: _) => -1
  | _ => 1

theorem quadRow_take (cs : List UInt8) (x : UInt8) {k : Nat} (hk : k < cs.length) : (cs.take (k + 1)).flatMap (quadTwo x) = (cs.take k).flatMap (quadTwo x) ++ [quadL x cs[k], quadR x cs[k]] := by
  rw [List.take_succ_eq_append_getElem hk, List.flatMap_append]; simp [quadTwo]
theorem quadAll_take (cs : List UInt8) {k : Nat} (hk : k < cs.length) : (cs.take (k + 1)).flatMap (quadRow cs) = (cs.take k).flatMap (quadRow cs) ++ quadRow cs cs[k] := by
  rw [List.take_succ_eq_append_getElem hk, List.flatMap_append]; simp

theorem quadAll_mem {cs : List UInt8} {t : T} : t ∈ quadAll cs ↔ ∃ x ∈ cs, ∃ y ∈ cs, t = quadL x y ∨ t = quadR x y := by
  simp [quadAll, quadRow, quadTwo, List.mem_flatMap]

theorem quadTwo_length (x : UInt8) : ∀ cs : List UInt8, (cs.flatMap (quadTwo x)).length = 2 * cs.length
  | [] => rfl
  | c :: cs => by rw [List.flatMap_cons, List.length_append, quadTwo_length x cs]; simp [quadTwo]; omega
theorem quadRows_length (cs : List UInt8) : ∀ ds : List UInt8, (ds.flatMap (quadRow cs)).length = 2 * cs.length * ds.length
  | [] => by simp
  | d :: ds => by
    rw [List.flatMap_cons, List.length_append, quadRows_length cs ds, quadRow, quadTwo_length]
    simp only [List.length_cons, Nat.mul_succ]; omega

theorem quad_wf {cs : List UInt8} (h : ∀ c ∈ cs, 97 ≤ c.toNat ∧ c.toNat ≤ 104) : ∀ t ∈ quadAll cs, t.wf ∧ t.leaves = 3 ∧ t.nodes = 2 := fun t ht => by
  obtain ⟨x, hx, y, hy, e⟩ := quadAll_mem.1 ht
  have h1 := h x hx
  have h2 := h y hy
  rcases e with rfl | rfl
  · refine ⟨?_, rfl, rfl⟩
    simp only [quadL, T.wf, T.wfL, List.length_cons, List.length_nil]
    exact ⟨h1.1, h1.2, by omega, by omega, ⟨h2.1, h2.2, by omega, by omega, trivial, trivial, trivial⟩, trivial, trivial⟩
  · refine ⟨?_, rfl, rfl⟩
    simp only [quadR, T.wf, T.wfL, List.length_cons, List.length_nil]
    exact ⟨h1.1, h1.2, by omega, by omega, trivial, ⟨h2.1, h2.2, by omega, by omega, trivial, trivial, trivial⟩, trivial⟩

theorem quadTwo_nodup (x : UInt8) : ∀ (cs : List UInt8), cs.Nodup → (cs.flatMap (quadTwo x)).Nodup
  | [], _ => by simp
  | c :: cs, h => by
    have h' := List.nodup_cons.1 h
    rw [List.flatMap_cons, List.nodup_append]
    refine ⟨by simp [quadTwo, quadL, quadR], quadTwo_nodup x cs h'.2, ?_⟩
    intro a ha b hb e
    subst e
    obtain ⟨d, hd, hb⟩ := List.mem_flatMap.1 hb
    have hcd : c ≠ d := fun e => h'.1 (e ▸ hd)
    simp only [quadTwo, List.mem_cons, List.not_mem_nil, or_false] at ha hb
    rcases ha with rfl | rfl <;> rcases hb with e | e <;> simp [quadL, quadR] at e <;> exact hcd e
theorem quadRows_nodup {cs : List UInt8} (hc : cs.Nodup) : ∀ (ds : List UInt8), ds.Nodup → (ds.flatMap (quadRow cs)).Nodup
  | [], _ => by simp
  | d :: ds, h => by
    have h' := List.nodup_cons.1 h
    rw [List.flatMap_cons, List.nodup_append]
    refine ⟨quadTwo_nodup d cs hc, quadRows_nodup hc ds h'.2, ?_⟩
    intro a ha b hb e
    subst e
    obtain ⟨x, hx, hb⟩ := List.mem_flatMap.1 hb
    have hdx : d ≠ x := fun e => h'.1 (e ▸ hx)
    obtain ⟨y, _, ha⟩ := List.mem_flatMap.1 ha
    obtain ⟨z, _, hb⟩ := List.mem_flatMap.1 hb
    simp only [quadTwo, List.mem_cons, List.not_mem_nil, or_false] at ha hb
    rcases ha with rfl | rfl <;> rcases hb with e | e <;> simp [quadL, quadR] at e <;> exact hdx e.1

/-! Which letters tell quadratic trees. -/

def letOne : List UInt8 → Option UInt8
  | [c] => if 97 ≤ (c.toNat : Int) ∧ (c.toNat : Int) ≤ 104 then some c else none
  | _ => none

def letStep (acc : Option (List UInt8)) (s : ByteArray) : Option (List UInt8) :=
  match acc, letOne s.data.toList with
  | some cs, some c => if c ∈ cs then none else some (cs ++ [c])
  | _, _ => none

def letAll (ss : List ByteArray) : Option (List UInt8) := ss.foldl letStep (some [])
def lettersOf (ss : List ByteArray) : Option (List UInt8) := if 1 ≤ ss.length ∧ ss.length ≤ 3 then letAll ss else none

theorem letStep_no (acc : Option (List UInt8)) {s : ByteArray} (h : letOne s.data.toList = none) : letStep acc s = none := by
  unfold letStep; rw [h]; cases acc <;> rfl
theorem letStep_twice {cs : List UInt8} {s : ByteArray} {c : UInt8} (h : letOne s.data.toList = some c) (hc : c ∈ cs) : letStep (some cs) s = none := by
  unfold letStep; rw [h]; simp [hc]
theorem letStep_yes {cs : List UInt8} {s : ByteArray} {c : UInt8} (h : letOne s.data.toList = some c) (hc : ¬ c ∈ cs) : letStep (some cs) s = some (cs ++ [c]) := by
  unfold letStep; rw [h]; simp [hc]
theorem letFold_none (ss : List ByteArray) : ss.foldl letStep none = none := by
  induction ss with
  | nil => rfl
  | cons x ss ih => exact ih
theorem letAll_none {ss : List ByteArray} {k : Nat} (h : letAll (ss.take k) = none) : letAll ss = none := by
  have : letAll (ss.take k ++ ss.drop k) = none := by
    rw [letAll, List.foldl_append]
    rw [letAll] at h
    rw [h, letFold_none]
  rwa [List.take_append_drop] at this
theorem letAll_take {ss : List ByteArray} {k : Nat} (h : k < ss.length) : letAll (ss.take (k + 1)) = letStep (letAll (ss.take k)) ss[k] := by
  rw [List.take_succ_eq_append_getElem h, letAll, List.foldl_append]; rfl

theorem letOne_some {l : List UInt8} {c : UInt8} (h : letOne l = some c) : l = [c] ∧ 97 ≤ c.toNat ∧ c.toNat ≤ 104 := by
  unfold letOne at h
  split at h
  · split at h
    · cases h; rename_i h1; exact ⟨rfl, by omega, by omega⟩
    · cases h
  · cases h
theorem letOne_bytes {s : ByteArray} {c : UInt8} (h : letOne s.data.toList = some c) : s = ⟨#[c]⟩ := by
  have := (letOne_some h).1
  apply ByteArray.ext
  apply Array.ext'
  simpa using this

structure LetsOk (ss : List ByteArray) (cs : List UInt8) : Prop where
  txt : ss = cs.map fun c => (⟨#[c]⟩ : ByteArray)
  let_ : ∀ c ∈ cs, 97 ≤ c.toNat ∧ c.toNat ≤ 104
  nodup : cs.Nodup

theorem LetsOk.nil : LetsOk [] [] := ⟨rfl, by simp, by simp⟩
theorem LetsOk.next {ss : List ByteArray} {cs : List UInt8} {s : ByteArray} {c : UInt8} (h : LetsOk ss cs) (hc : letOne s.data.toList = some c) (hn : ¬ c ∈ cs) : LetsOk (ss ++ [s]) (cs ++ [c]) where
  txt := by rw [List.map_append, h.txt, letOne_bytes hc]; simp
  let_ := fun d hd => by
    rcases List.mem_append.1 hd with e | e
    · exact h.let_ d e
    · simp at e; subst e; exact (letOne_some hc).2
  nodup := by
    rw [List.nodup_append]
    exact ⟨h.nodup, by simp, fun a ha b hb e => by simp at hb; subst hb; exact hn (e ▸ ha)⟩

theorem letAll_ok : ∀ (n : Nat) (ss : List ByteArray) (cs : List UInt8), ss.length = n → letAll ss = some cs → LetsOk ss cs
  | 0, ss, cs, hn, h => by
    have : ss = [] := List.length_eq_zero_iff.1 hn
    subst this
    cases h
    exact .nil
  | n + 1, ss, cs, hn, h => by
    have e : ss = ss.take n ++ [ss[n]] := by rw [← List.take_succ_eq_append_getElem (by omega), List.take_of_length_le (by omega)]
    have h2 : letAll (ss.take (n + 1)) = some cs := by rw [List.take_of_length_le (by omega)]; exact h
    rw [letAll_take (by omega)] at h2
    cases ha : letAll (ss.take n) with
    | none => rw [ha] at h2; cases h2
    | some ds =>
      have ih := letAll_ok n (ss.take n) ds (by rw [List.length_take]; omega) ha
      rw [ha] at h2
      cases ho : letOne (ss[n]).data.toList with
      | none => rw [letStep_no _ ho] at h2; cases h2
      | some c =>
        by_cases hc : c ∈ ds
        · rw [letStep_twice ho hc] at h2; cases h2
        · rw [letStep_yes ho hc] at h2
          cases h2
          rw [e]
          exact ih.next ho hc

/-- The quadratic trees for letters, the greater ones first. -/
def quadsOf (ss : List ByteArray) : Option (List T) := (lettersOf ss).map fun cs => downT (quadAll cs)

theorem lettersOf_ok {ss : List ByteArray} {cs : List UInt8} (h : lettersOf ss = some cs) : LetsOk ss cs ∧ 1 ≤ cs.length ∧ cs.length ≤ 3 := by
  unfold lettersOf at h
  split at h
  · have := letAll_ok _ ss cs rfl h
    have e : ss.length = cs.length := by rw [this.txt, List.length_map]
    exact ⟨this, by omega, by omega⟩
  · cases h

theorem quadsOf_ok {ss : List ByteArray} {ts : List T} (h : quadsOf ss = some ts) : ts.length ≤ 18 ∧ (∀ t ∈ ts, t.wf ∧ t.leaves = 3 ∧ t.nodes = 2) ∧ ts.Pairwise (fun a b => 0 < ordT a b) := by
  unfold quadsOf at h
  cases hl : lettersOf ss with
  | none => rw [hl] at h; cases h
  | some cs =>
    rw [hl] at h
    cases h
    obtain ⟨h1, h2, h3⟩ := lettersOf_ok hl
    have hw := quad_wf h1.let_
    refine ⟨?_, fun t ht => hw t (downT_mem ht), downT_desc (fun t ht => (hw t ht).1)⟩
    have a := downT_length_le (quadAll cs)
    have b : (quadAll cs).length = 2 * cs.length * cs.length := quadRows_length cs cs
    have c : 2 * cs.length * cs.length ≤ 2 * 3 * 3 := Nat.mul_le_mul (by omega) h3
    show (downT (quadAll cs)).length ≤ 18
    omega

end Go.Proofs.YtoeebipahifpcaaGreat
end
section
/- The model sorts trees, and writes them. -/
namespace Go.Proofs.YtoeebipahifpcaaGreat
open Go.RowKit

section
variable {P : Program} (w : World)
/-- An append onto a row that has been made, of nothing too, at a step of a region. -/
theorem step_append_any {ops : Array Oper} {o : Oper} {a : Act} {K : Act → World → Prop} {Q : Exit → Act → World → Prop} {E : Prop} (hgd : o.guard = none) (s x : Operand) (t : TypeId)
    (ho : o.op = .call { callee := .builtin .append, args := #[s, x], argTypes := #[t, t] })
    (base : Nat) (e : TypeId) (i : TypeInfo) (z : Value) (size bytes : Nat) (ht : P.underlying t = some (.slice e)) (hi : P.info? e = some i) (hz : i.zero = some z)
    (hsize : i.size = size) (hby : i.bytes = bytes) (hzs : z.cells.size = size) (hsz : 0 < size)
    (v : Value) (n : Nat) (xs : List Value) (hs : a.eval s = v) (hown : w.ownsRow base e size v n xs) (hv : v ≠ .slice none 0 0)
    (ad : Addr) (m c : Nat) (news : List Value) (hx : a.eval x = .slice (some ad) m c) (hl : news.length = m * size) (hnews : ∀ j u, news[j]? = some u → w.cell? (ad.add j) = some u) (h1 : ∀ u ∈ news, u.oneCell' = true)
    (N : Nat) (ys : List Value) (hN : n + m = N) (hys : xs ++ news = ys)
    (h63 : N ≤ maxLen) (hbytes : N * bytes ≤ 140737488355328) (hbase : base ≤ w.heap.size)
    (h : ∀ g cap w', w'.ownsRow base e size (.slice (some ⟨g, 0, none⟩) N cap) N ys → w.grownBy w' v.ownBlock → K (a.put o.dst (.slice (some ⟨g, 0, none⟩) N cap)) w') :
    if Region.wanted o (yielded ops a.tmps) = true then Oper.wp P o a w K Q else E := by
  have hw : Region.wanted o (yielded ops a.tmps) = true := by simp [Region.wanted, hgd]
  rw [if_pos hw]
  subst hN
  subst hys
  obtain ⟨v', w', hr, h2, h3, h4, _⟩ := run_append_own_at (P := P) w base t o.type e i z size bytes ht hi hz hsize hby hzs hsz v n xs hown ad m c news hl hnews h1 h63 hbytes hbase
  obtain ⟨g, cap, rfl, _, _, _⟩ := owns_some h2 (fun e => hv (h4.1 e).1)
  unfold Oper.wp execOp
  simp only [ho, resolve, invoke, builtin, Sem.run_bind, Sem.run_pure, Result.andThen_ok, List.map_toArray, List.map_cons, List.map_nil, hs, hx, hr]
  exact h g cap w' h2 h3
end

/-- Cells that are these elements, one behind the other. -/
def CellsOf {α : Type} (E : Elt α) (w : World) (P : Nat → Prop) (us : List α) (xs : List Value) : Prop :=
  xs.length = us.length * E.size ∧ ∀ q (hq : q < us.length), ∃ cs, (∀ j, j < E.size → xs[q * E.size + j]? = cs[j]?) ∧ E.R w P us[q] cs

theorem CellsOf.one {α : Type} {E : Elt α} {w : World} {P : Nat → Prop} {u : α} {cs : List Value} (h : E.R w P u cs) : CellsOf E w P [u] cs :=
  ⟨by rw [E.len h]; simp, fun q hq => by
    have : q = 0 := by simpa using hq
    subst this
    exact ⟨cs, fun j _ => by simp, h⟩⟩

theorem CellsOf.append {α : Type} {E : Elt α} {w : World} {P : Nat → Prop} {us vs : List α} {xs ys : List Value} (h : CellsOf E w P us xs) (k : CellsOf E w P vs ys) : CellsOf E w P (us ++ vs) (xs ++ ys) :=
  ⟨by rw [List.length_append, List.length_append, h.1, k.1, Nat.add_mul], fun q hq => by
    by_cases hlt : q < us.length
    · obtain ⟨cs, e1, e2⟩ := h.2 q hlt
      refine ⟨cs, fun j hj => ?_, by rw [List.getElem_append_left hlt]; exact e2⟩
      rw [List.getElem?_append_left]
      · exact e1 j hj
      · have := Nat.mul_le_mul_right E.size hlt
        rw [Nat.succ_mul] at this
        rw [h.1]; omega
    · have hq2 : q - us.length < vs.length := by rw [List.length_append] at hq; omega
      obtain ⟨cs, e1, e2⟩ := k.2 (q - us.length) hq2
      refine ⟨cs, fun j hj => ?_, by rw [List.getElem_append_right (by omega)]; exact e2⟩
      have hm : us.length * E.size ≤ q * E.size := Nat.mul_le_mul_right _ (by omega)
      rw [List.getElem?_append_right (by rw [h.1]; omega), ← e1 j hj, h.1, Nat.sub_mul]
      congr 1; omega⟩

theorem CellsOf.piece {α : Type} {E : Elt α} {w : World} {P : Nat → Prop} {g : Nat} {us : List α} (h : Rd E w P (some ⟨g, 0, none⟩) us) (h0 : 0 < E.size) (i m : Nat) (him : i + m ≤ us.length) :
    CellsOf E w P ((us.drop i).take m) (rowCells w g (i * E.size) (m * E.size)) ∧ (∀ j u, (rowCells w g (i * E.size) (m * E.size))[j]? = some u → w.cell? ⟨g, i * E.size + j, none⟩ = some u) ∧ ∀ u ∈ rowCells w g (i * E.size) (m * E.size), u.oneCell' = true := by
  obtain ⟨c1, c2, c3⟩ := h.cells h0 i m him
  refine ⟨⟨?_, fun q hq => ?_⟩, c1, c2⟩
  · rw [rowCells_length, List.length_take, List.length_drop]
    congr 1; omega
  · rw [List.length_take, List.length_drop] at hq
    obtain ⟨cs, e1, e2⟩ := c3 q (by omega)
    exact ⟨cs, e1, by rw [List.getElem_take, List.getElem_drop]; exact e2⟩

theorem trS.get {w : World} {P : Nat → Prop} {a : Option Addr} {ts : List T} (h : Rd trS w P a ts) (k : Nat) (hk : k < ts.length) :
    ∃ g lb sa sn sc, a = some ⟨g, 0, none⟩ ∧ P g ∧ w.cell? ⟨g, k * 2, none⟩ = some (.string lb) ∧ w.cell? ⟨g, k * 2 + 1, none⟩ = some (.slice sa sn sc) ∧ ts[k].wf ∧ RepS w P ts[k] (.string lb) (.slice sa sn sc) := by
  obtain ⟨g, cs, e, hg, hc, lb, sa, sn, sc, rfl, hw, hr⟩ := h k hk
  exact ⟨g, lb, sa, sn, sc, e, hg, hc 0 (by decide), hc 1 (by decide), hw, hr⟩

/-- Trees are handed back, in a row that is new. -/
def NewTrs (us : List T) (w : World) (e : Ending) (w' : World) : Prop :=
  Below w.heap.size w w' ∧ ∃ g cap, e = .returned (.slice (some ⟨g, 0, none⟩) us.length cap) ∧ us.length ≤ cap ∧ cap ≤ 9223372036854775807 ∧ Rd trS w' (fun _ => True) (some ⟨g, 0, none⟩) us

/-- What 'l2Sort' answers. -/
def SortedTrs (ts : List T) (w : World) (e : Ending) (w' : World) : Prop := ∃ us, AscT us ∧ us.Perm ts ∧ NewTrs us w e w'

def SortRel (ts : List T) (n : Nat) (w : World) (ov iv : Value) (wr : World) : Prop :=
  ∃ (i : Nat) (us : List T) (gq cq : Nat), i ≤ n ∧ us.length = i ∧ iv = .int .i64 i ∧ ov = .slice (some ⟨gq, 0, none⟩) i cq ∧ i ≤ cq ∧ cq ≤ 9223372036854775807 ∧ AscT us ∧ us.Perm (ts.take i) ∧ Rd trS wr (fun _ => True) (some ⟨gq, 0, none⟩) us ∧ Below w.heap.size w wr

set_option maxRecDepth 100000 in
set_option maxHeartbeats 4000000 in
theorem l2Sort_any (ts : List T) (n : Nat) (hnt : n = ts.length) (ga cap : Nat) (w : World) (hn : n ≤ 100000) (hts : ∀ t ∈ ts, t.wf ∧ t.leaves ≤ 1000 ∧ t.nodes ≤ 1000) (hnd : ts.Nodup) (hr : Rd trS w (fun _ => True) (some ⟨ga, 0, none⟩) ts) :
    Calls Tryz.prog 61 #[.slice (some ⟨ga, 0, none⟩) n cap] w (SortedTrs ts w) := by
  have HTS := Lib.hid hts
  have HND := Lib.hid hnd
  have HR := Lib.hid hr
  have HNT := Lib.hid hnt
  clear hts hnd hr hnt
  obtain ⟨i0, hi0, hzz, hzs, hzb⟩ := info_parts info42
  go_enter Tryz.func61, Tryz.ntmps61
  go_wp2_with fail
  go_loopw [3, 4] (fun ov iv wr => SortRel ts n w ov iv wr) (fun _ iv _ => n - (intOf iv).toNat)
  case atStart =>
    exact ⟨0, [], w.heap.size, 0, Nat.zero_le _, rfl, rfl, rfl, Nat.le_refl _, by omega, List.Pairwise.nil, by simp, Rd.nil, (Below.refl _ _).alloc (Nat.le_refl _) _⟩
  case round =>
    obtain ⟨i, us, gq, cq, hi, hul, rfl, rfl, hc1, hc2, hasc, hperm, hru, hB⟩ := hrel
    obtain ⟨wo, rfl⟩ : ∃ wo : World, wo = wr := ⟨_, rfl⟩
    have HUL := Lib.hid hul
    have HASC := Lib.hid hasc
    have HPERM := Lib.hid hperm
    have HRU := Lib.hid hru
    have HB := Lib.hid hB
    clear hul hasc hperm hru hB
    by_cases hlt : i < n
    · have hltt : i < ts.length := by rw [← HNT.out]; exact hlt
      obtain ⟨ga', lb, sa, sn, sc, ega, _, d1, d2, hwt, hrt⟩ := trS.get (HR.out.below (by decide) HB.out) i hltt
      cases ega
      have hmt := HTS.out (ts[i]) (List.getElem_mem hltt)
      have HTI : Hid (∀ u ∈ us, u.wf ∧ u.leaves ≤ 1000 ∧ u.nodes ≤ 1000 ∧ ordT (ts[i]) u ≠ 0) := Lib.hid (fun u hu => by
        have hm := HPERM.out.mem_iff.1 hu
        have hm2 := HTS.out u (List.mem_of_mem_take hm)
        refine ⟨hm2.1, hm2.2.1, hm2.2.2, fun h0 => ?_⟩
        have e := ordT_zero hmt.1 hm2.1 h0
        obtain ⟨j, hj, ej⟩ := List.getElem_of_mem hm
        rw [List.length_take] at hj
        rw [List.getElem_take] at ej
        have := (List.pairwise_iff_getElem.1 HND.out) j i (by omega) hltt (by omega)
        exact this (by rw [ej, e]))
      obtain ⟨t, ht⟩ : ∃ t, t = ts[i] := ⟨_, rfl⟩
      rw [← ht] at hwt hrt hmt HTI
      have HTE := Lib.hid ht
      have HRT := Lib.hid hrt
      have HO : Hid (∀ (W : World), Below wo.heap.size wo W → ∀ k (h : k < us.length), ∃ yb ya yn yc, W.cell? ⟨gq, k * 2, none⟩ = some (.string yb) ∧ W.cell? ⟨gq, k * 2 + 1, none⟩ = some (.slice ya yn yc) ∧
          ∀ W', Below W.heap.size W W' → Calls Tryz.prog 56 #[.agg #[.string lb, .slice sa sn sc], .agg #[.string yb, .slice ya yn yc]] W' (Ans (.int .i64 (ordT t us[k])) W')) := Lib.hid (fun W hb k h => by
        obtain ⟨g', yb, ya, yn, yc, e, _, y1, y2, hyw, hyr⟩ := trS.get (HRU.out.below (by decide) hb) k h
        cases e
        have hp := HTI.out (us[k]) (List.getElem_mem h)
        refine ⟨yb, ya, yn, yc, y1, y2, fun W' hB' => ?_⟩
        exact l2Order_any t (us[k]) lb sa sn sc yb ya yn yc W' (fun b => b < W'.heap.size) hwt hmt.2.1 hmt.2.2 hyw hp.2.1 hp.2.2.1 (fun _ h => h) (((HRT.out.below hwt hb).below hwt hB').keep (fun _ _ _ h => h) (fun _ _ h => h) hwt) ((hyr.below hyw hB').keep (fun _ _ _ h => h) (fun _ _ h => h) hyw))
      clear ht hrt
      go_upto_block 2 with fail
      go_cut [5] from 15 to 31 (fun kv wx => ∃ k : Nat, k ≤ i ∧ kv = .int .i64 k ∧ (∀ j (hj : j < us.length), k ≤ j → ordT t us[j] < 0) ∧ (∀ h0 : 0 < k, ∀ h1 : k - 1 < us.length, 0 < ordT t us[k - 1]) ∧ Below wo.heap.size wo wx)
      case first =>
        go_wp2_with fail
        go_loopw [5] (fun kv wx => ∃ k : Nat, k ≤ i ∧ kv = .int .i64 k ∧ (∀ j (hj : j < us.length), k ≤ j → ordT t us[j] < 0) ∧ Below wo.heap.size wo wx) (fun kv _ => (intOf kv).toNat)
        case atStart => exact ⟨i, Nat.le_refl _, rfl, fun j hj h => by have := HUL.out; omega, Below.refl _ _⟩
        case round =>
          obtain ⟨k, hk, rfl, hbef, hBx⟩ := hrel
          have HBEF := Lib.hid hbef
          have HBX := Lib.hid hBx
          have d1' := keep1 hBx d1
          have d2' := keep1 hBx d2
          clear hbef
          cases k with
          | zero =>
            clear hBx
            go_wp2_with fail
            go_quiet (fail)
            go_wp2_with fail
            go_meet
            exact ⟨0, hk, rfl, HBEF.out, fun h0 => by omega, below_drewN HBX.out nq⟩
          | succ k =>
            have hltu : k < us.length := by have := HUL.out; omega
            obtain ⟨yb, ya, yn, yc, y1, y2, hO⟩ := HO.out wr hBx k hltu
            have hp := (HTI.out (us[k]) (List.getElem_mem hltu)).2.2.2
            obtain ⟨z, hz⟩ : ∃ z, z = ordT t us[k] := ⟨_, rfl⟩
            have HZ := Lib.hid hz
            rw [← hz] at hO hp
            have HOZ := Lib.hid hO
            have k0 : (0 : Int) ≤ (k : Int) := by omega
            have k1 : (k : Int) < (i : Int) := by omega
            have hwr : IntKind.i64.wrap (k : Int) = (k : Int) := by rw [IntKind.wrap_i64]; omega
            have hwr2 : IntKind.i64.wrap ((k : Int) + 1 - 1) = (k : Int) := by rw [IntKind.wrap_i64]; omega
            have i0' : (0 : Int) ≤ (i : Int) := by omega
            have hd : decide (0 < k + 1) = true := decide_eq_true (by omega)
            have hd2 : decide ((0 : Int) < (k : Int) + 1) = true := decide_eq_true (by omega)
            clear hO hz hBx
            by_cases hzp : z < 0
            all_goals
              have hzd : decide (z < 0) = decide (z < 0) := rfl
              first | (have hzt : decide (z < 0) = true := decide_eq_true hzp) | (have hzt : decide (z < 0) = false := decide_eq_false hzp)
              clear hzd
              go_wp2_with fail
              go_region_held3 (fun w' => w'.cell? ⟨ga, i * 2, none⟩ = some (.string lb) ∧ w'.cell? ⟨ga, i * 2 + 1, none⟩ = some (.slice sa sn sc) ∧ w'.cell? ⟨gq, k * 2, none⟩ = some (.string yb) ∧ w'.cell? ⟨gq, k * 2 + 1, none⟩ = some (.slice ya yn yc))
                (first | exact ⟨d1', d2', y1, y2⟩ | exact ⟨p1, p2, p3, p4⟩)
                (first
                | (go_at_call 56; refine (HOZ.out _ (Below.refl _ _).drew).mono ?_; rintro e w2 ⟨rfl, hB2⟩; have hB2' : Below wr.heap.size wr w2 := (Below.refl _ _).drew.trans hB2; have p1 := keep1 hB2' d1'; have p2 := keep1 hB2' d2'; have p3 := keep1 hB2' y1; have p4 := keep1 hB2' y2; have HC1 := Lib.hid (below_step HBX.out hB2'); clear hB2 hB2'))
              all_goals
                go_wp2_with fail
                first
                | (go_roundw
                   case rel => exact ⟨k, by omega, by first | rfl | go_num, fun j hj hkj => by
                       by_cases e : j = k
                       · subst e; rw [← HZ.out]; exact hzp
                       · exact HBEF.out j hj (by omega), HC1.out⟩
                   case measure => simp [intOf] <;> omega)
                | (go_meet
                   exact ⟨k + 1, hk, rfl, HBEF.out, fun _ _ => by
                     show 0 < ordT t us[k]
                     rw [← HZ.out]; omega, HC1.out⟩)
      case rest =>
        obtain ⟨k, hk, rfl, hka, hkb, hBc⟩ := hcut
        have HKA := Lib.hid hka
        have HKB := Lib.hid hkb
        have HBC := Lib.hid hBc
        have d1 := keep1 hBc d1
        have d2 := keep1 hBc d2
        have hRU := HRU.out.below (by decide) hBc
        obtain ⟨pA, qA, rA⟩ := CellsOf.piece (hRU.weak (P' := fun b => b < wc.heap.size) (by decide) (fun _ _ h => h)) (by decide) 0 k (by have := HUL.out; omega)
        obtain ⟨pC, qC, rC⟩ := CellsOf.piece (hRU.weak (P' := fun b => b < wc.heap.size) (by decide) (fun _ _ h => h)) (by decide) k (i - k) (by have := HUL.out; omega)
        have hrt := (HRT.out.below hwt hBc).keep (P' := fun b => b < wc.heap.size) (fun _ _ _ h => h) (fun _ _ h => h) hwt
        obtain ⟨xsA, hxsA⟩ : ∃ xsA, xsA = rowCells wc gq (0 * trS.size) (k * trS.size) := ⟨_, rfl⟩
        obtain ⟨xsC, hxsC⟩ : ∃ xsC, xsC = rowCells wc gq (k * trS.size) ((i - k) * trS.size) := ⟨_, rfl⟩
        rw [← hxsA] at pA qA rA
        rw [← hxsC] at pC qC rC
        have XA1 : Hid (xsA.length = k * 2) := Lib.hid (by rw [hxsA, rowCells_length]; rfl)
        have XC1 : Hid (xsC.length = (i - k) * 2) := Lib.hid (by rw [hxsC, rowCells_length]; rfl)
        have XA2 : Hid (∀ j u, xsA[j]? = some u → wc.cell? ((⟨gq, 0, none⟩ : Addr).add j) = some u) := Lib.hid (fun j u hu => by
          have e : (⟨gq, 0, none⟩ : Addr).add j = ⟨gq, j, none⟩ := by unfold Addr.add; split <;> simp_all
          have := qA j u hu
          rw [Nat.zero_mul, Nat.zero_add] at this
          rw [e]; exact this)
        have XA3 := Lib.hid rA
        have XC3 := Lib.hid rC
        have FIN : Hid (∀ (g c : Nat) (W : World), W.ownsRow wc.heap.size 66 2 (.slice (some ⟨g, 0, none⟩) (i + 1) c) (i + 1) ((xsA ++ [.string lb, .slice sa sn sc]) ++ xsC) → Below wc.heap.size wc W → SortRel ts n w (.slice (some ⟨g, 0, none⟩) (i + 1) c) (.int .i64 ((i : Int) + 1)) W) := Lib.hid (fun g c W hown hbW => by
          have hul := HUL.out
          have e1 : (us.take k ++ t :: us.drop k).length = i + 1 := by simp [hul]; omega
          have hcells : CellsOf trS wc (fun b => b < wc.heap.size) (us.take k ++ t :: us.drop k) ((xsA ++ [.string lb, .slice sa sn sc]) ++ xsC) := by
            have h1 : us.take k ++ t :: us.drop k = (us.take k ++ [t]) ++ us.drop k := by simp
            have h2 : (us.drop 0).take k = us.take k := by simp
            have h3 : (us.drop k).take (i - k) = us.drop k := List.take_of_length_le (by rw [List.length_drop]; omega)
            rw [h1]
            rw [h2] at pA
            rw [h3] at pC
            exact (pA.append (CellsOf.one (E := trS) ⟨lb, sa, sn, sc, rfl, hwt, hrt⟩)).append pC
          have hrow : Row trS 66 wc.heap.size (us.take k ++ t :: us.drop k) (.slice (some ⟨g, 0, none⟩) (i + 1) c) ((xsA ++ [.string lb, .slice sa sn sc]) ++ xsC) W :=
            Row.of_old hbW (by rw [e1]; exact hown) (Nat.le_refl _) hcells.2
          obtain ⟨g', c', e, hc3, hc4, _⟩ := owns_some hown (by simp)
          simp only [Value.slice.injEq] at e
          obtain ⟨_, _, rfl⟩ := e
          refine ⟨i + 1, us.take k ++ t :: us.drop k, g, c, by omega, e1, by simp, by simp, hc3, hc4, ?_, ?_, hrow.rd, below_step HB.out (below_step HBC.out hbW)⟩
          · exact AscT.put HASC.out (by omega) (fun j hj h => HKA.out j hj h) (fun h0 => HKB.out h0 (by omega))
          · rw [List.take_succ_eq_append_getElem hltt, ← HTE.out]
            exact perm_put k HPERM.out)
        have k0 : (0 : Int) ≤ (k : Int) := by omega
        have kc : (k : Int) ≤ (cq : Int) := by omega
        have ki : (k : Int) ≤ (i : Int) := by omega
        have ic : (i : Int) ≤ (cq : Int) := by omega
        have kc' : k ≤ cq := by omega
        have i0' : (0 : Int) ≤ (i : Int) := by omega
        have hwi : IntKind.i64.wrap ((i : Int) + 1) = (i : Int) + 1 := by rw [IntKind.wrap_i64]; omega
        by_cases hkc : k = cq
        · have hik : i = k := by omega
          subst hik
          subst hkc
          have XC1' : Hid (xsC.length = 0 * 2) := Lib.hid (by have := XC1.out; omega)
          have XC2 : Hid (∀ j u, xsC[j]? = some u → wc.cell? ((⟨gq, 0, none⟩ : Addr).add j) = some u) := Lib.hid (fun j u hu => by
            have h1 := XC1'.out
            have : xsC = [] := List.length_eq_zero_iff.1 (by omega)
            rw [this] at hu; simp at hu)
          clear pA pC qA qC rA rC hxsA hxsC hrt hRU hBc hka hkb
          go_wp2_with fail
          refine wp_region_held_drew (S := (fun w' => w'.cell? ⟨ga, i * 2, none⟩ = some (.string lb) ∧ w'.cell? ⟨ga, i * 2 + 1, none⟩ = some (.slice sa sn sc))) (by kernel_rfl) (by exact ⟨d1, d2⟩) (fun hHeld => ?_)
          refine wpAnyH_take (i := 1) (oi := { dst := some 33, op := Op.move (Operand.tmp 3), type := 44, pos := "l2_counts.go:213", after := #[], guard := none }) (v := ?_) rfl (by kernel_rfl) (by kernel_rfl) (by kernel_rfl) (fun _ _ _ h => h) (Or.inl ⟨by rfl, ?_⟩) (by assumption) ?_
          rotate_left
          · (intro w hSw; (try dsimp only at hSw); go_simp <;> with_reducible rfl)
          (try simp only [Act.put, List.setIfInBounds_toArray, List.set_cons_zero, List.set_cons_succ])
          refine wpAnyH_take (i := 2) (oi := { dst := some 34, op := Op.move (Operand.tmp 5), type := 3, pos := "l2_counts.go:213", after := #[], guard := none }) (v := ?_) rfl (by kernel_rfl) (by kernel_rfl) (by kernel_rfl) (fun _ _ _ h => h) (Or.inl ⟨by rfl, ?_⟩) (by assumption) ?_
          rotate_left
          · (intro w hSw; (try dsimp only at hSw); go_simp <;> with_reducible rfl)
          (try simp only [Act.put, List.setIfInBounds_toArray, List.set_cons_zero, List.set_cons_succ])
          refine wpAnyH_take (i := 3) (oi := { dst := some 35, op := Op.slice 44 (Operand.tmp 33) none (some (Operand.tmp 34)) none, type := 44, pos := "l2_counts.go:213", after := #[{ on := 1, ground := Ground.data }, { on := 2, ground := Ground.data }], guard := none }) (v := ?_) rfl (by kernel_rfl) (by kernel_rfl) (by kernel_rfl) (fun _ _ _ h => h) (Or.inl ⟨by rfl, ?_⟩) (by assumption) ?_
          rotate_left
          · (intro w hSw; (try dsimp only at hSw); go_simp <;> with_reducible rfl)
          (try simp only [Act.put, List.setIfInBounds_toArray, List.set_cons_zero, List.set_cons_succ])
          refine wpAnyH_take (i := 5) (oi := { dst := some 37, op := Op.move (Operand.tmp 0), type := 44, pos := "l2_counts.go:213", after := #[], guard := none }) (v := ?_) rfl (by kernel_rfl) (by kernel_rfl) (by kernel_rfl) (fun _ _ _ h => h) (Or.inl ⟨by rfl, ?_⟩) (by assumption) ?_
          rotate_left
          · (intro w hSw; (try dsimp only at hSw); go_simp <;> with_reducible rfl)
          (try simp only [Act.put, List.setIfInBounds_toArray, List.set_cons_zero, List.set_cons_succ])
          refine wpAnyH_take (i := 6) (oi := { dst := some 38, op := Op.move (Operand.tmp 4), type := 3, pos := "l2_counts.go:213", after := #[], guard := none }) (v := ?_) rfl (by kernel_rfl) (by kernel_rfl) (by kernel_rfl) (fun _ _ _ h => h) (Or.inl ⟨by rfl, ?_⟩) (by assumption) ?_
          rotate_left
          · (intro w hSw; (try dsimp only at hSw); go_simp <;> with_reducible rfl)
          (try simp only [Act.put, List.setIfInBounds_toArray, List.set_cons_zero, List.set_cons_succ])
          refine wpAnyH_take (i := 7) (oi := { dst := some 39, op := Op.indexAddr 44 (Operand.tmp 37) (Operand.tmp 38), type := 0, pos := "l2_counts.go:213", after := #[{ on := 5, ground := Ground.data }, { on := 6, ground := Ground.data }], guard := none }) (v := ?_) rfl (by kernel_rfl) (by kernel_rfl) (by kernel_rfl) (fun _ _ _ h => h) (Or.inl ⟨by rfl, ?_⟩) (by assumption) ?_
          rotate_left
          · (intro w hSw; (try dsimp only at hSw); go_simp <;> with_reducible rfl)
          (try simp only [Act.put, List.setIfInBounds_toArray, List.set_cons_zero, List.set_cons_succ])
          refine wpAnyH_take (i := 8) (oi := { dst := some 40, op := Op.load 66 (Operand.tmp 39), type := 66, pos := "l2_counts.go:213", after := #[{ on := 7, ground := Ground.data }], guard := none }) (v := ?_) rfl (by kernel_rfl) (by kernel_rfl) (by kernel_rfl) (fun _ _ _ h => h) (Or.inl ⟨by rfl, ?_⟩) (by assumption) ?_
          rotate_left
          · (intro w hSw; (try dsimp only at hSw); go_simp <;> with_reducible rfl)
          (try simp only [Act.put, List.setIfInBounds_toArray, List.set_cons_zero, List.set_cons_succ])
          refine wpAnyH_take (i := 11) (oi := { dst := some 43, op := Op.move (Operand.tmp 3), type := 44, pos := "l2_counts.go:213", after := #[], guard := none }) (v := ?_) rfl (by kernel_rfl) (by kernel_rfl) (by kernel_rfl) (fun _ _ _ h => h) (Or.inl ⟨by rfl, ?_⟩) (by assumption) ?_
          rotate_left
          · (intro w hSw; (try dsimp only at hSw); go_simp <;> with_reducible rfl)
          (try simp only [Act.put, List.setIfInBounds_toArray, List.set_cons_zero, List.set_cons_succ])
          refine wpAnyH_take (i := 12) (oi := { dst := some 44, op := Op.move (Operand.tmp 5), type := 3, pos := "l2_counts.go:213", after := #[], guard := none }) (v := ?_) rfl (by kernel_rfl) (by kernel_rfl) (by kernel_rfl) (fun _ _ _ h => h) (Or.inl ⟨by rfl, ?_⟩) (by assumption) ?_
          rotate_left
          · (intro w hSw; (try dsimp only at hSw); go_simp <;> with_reducible rfl)
          (try simp only [Act.put, List.setIfInBounds_toArray, List.set_cons_zero, List.set_cons_succ])
          refine wpAnyH_take (i := 13) (oi := { dst := some 45, op := Op.slice 44 (Operand.tmp 43) (some (Operand.tmp 44)) none none, type := 44, pos := "l2_counts.go:213", after := #[{ on := 11, ground := Ground.data }, { on := 12, ground := Ground.data }], guard := none }) (v := ?_) rfl (by kernel_rfl) (by kernel_rfl) (by kernel_rfl) (fun _ _ _ h => h) (Or.inl ⟨by rfl, ?_⟩) (by assumption) ?_
          rotate_left
          · (intro w hSw; (try dsimp only at hSw); go_simp <;> with_reducible rfl)
          (try simp only [Act.put, List.setIfInBounds_toArray, List.set_cons_zero, List.set_cons_succ])
          have HBD := Lib.hid (Below.refl wc.heap.size wc).drew
          refine wpAnyH_ready (rs := [0, 9]) (by kernel_rfl) (by simp) ?_
          refine AllReadyH.cons (o := { dst := some 32, op := Op.buildSlice 44 0 #[], type := 44, pos := "l2_counts.go:213", after := #[], guard := none }) rfl ?_ ?_
          · intro K hK
            go_simp
            go_wp2_with fail
            have HB1 := Lib.hid (HBD.out.alloc HBD.out.size (.cells #[] 66 (0, 0)))
            have OW2 : Hid (World.ownsRow (wc.drew.alloc (.cells #[] 66 (0, 0))) wc.heap.size 66 2 (.slice (some ⟨wc.heap.size, 0, none⟩) 0 0) 0 []) := Lib.hid (by exact World.ownsRow_made wc.drew #[] 0 HBD.out.size (by simp [maxLen]) rfl)
            refine hK.out _ _ ?_ (fun hHeld => ?_)
            · exact ⟨keep1 HB1.out d1, keep1 HB1.out d2⟩
            clear hK K
            (try simp only [Act.put, List.setIfInBounds_toArray, List.set_cons_zero, List.set_cons_succ])
            refine wpAnyH_ready (rs := [4, 9]) (by kernel_rfl) (by simp) ?_
            refine AllReadyH.cons (o := { dst := some 36, op := Op.call { callee := Callee.builtin Builtin.append, args := #[Operand.tmp 32, Operand.tmp 35], argTypes := #[44, 44] }, type := 44, pos := "l2_counts.go:213", after := #[{ on := 0, ground := Ground.data }, { on := 3, ground := Ground.data }], guard := none }) rfl ?_ ?_
            · intro K hK
              refine step_append_any _ (by rfl) _ _ 44 (by rfl) wc.heap.size 66 i0 (.agg #[.string ⟨#[]⟩, .slice none 0 0]) 2 40 Tryz.underlying44 hi0 hzz hzs hzb rfl (by decide) (.slice (some ⟨wc.heap.size, 0, none⟩) 0 0) 0 [] (by rfl) OW2.out (by simp) ⟨gq, 0, none⟩ i i xsA (by rfl) XA1.out (fun j u hu => keep1 HB1.out (XA2.out j u hu)) XA3.out i xsA (by omega) (by rfl) (by unfold maxLen; omega) (by omega) HB1.out.size ?_
              intro g3 c3 w3 hown3 hgr3
              have HB4 := Lib.hid (HB1.out.grown hgr3 HB1.out.size (fun q e => (OW2.out.lt q e).1))
              have OW5 := Lib.hid hown3
              clear hown3 hgr3
              refine hK.out _ _ ?_ (fun hHeld => ?_)
              · exact ⟨keep1 HB4.out d1, keep1 HB4.out d2⟩
              clear hK K
              (try simp only [Act.put, List.setIfInBounds_toArray, List.set_cons_zero, List.set_cons_succ])
              refine wpAnyH_ready (rs := [9]) (by kernel_rfl) (by simp) ?_
              refine AllReadyH.cons (o := { dst := some 41, op := Op.buildSlice 44 1 #[(0, Operand.tmp 40)], type := 44, pos := "l2_counts.go:213", after := #[{ on := 8, ground := Ground.data }], guard := none }) rfl (fun K hK => ?_) AllReadyH.nil
              go_simp
              go_wp2_with fail
              have HB6 := Lib.hid (HB4.out.alloc HB4.out.size (.cells #[.string lb, .slice sa sn sc] 66 (0, 0)))
              have OW7 := Lib.hid (World.ownsRow.alloc OW5.out (.cells #[.string lb, .slice sa sn sc] 66 (0, 0)))
              have BX8 : Hid ((w3.alloc (.cells #[.string lb, .slice sa sn sc] 66 (0, 0))).heap[w3.heap.size]? = some (.cells #[.string lb, .slice sa sn sc] 66 (0, 0))) := Lib.hid (by exact heap_alloc_new w3 _)
              refine hK.out _ _ ?_ (fun hHeld => ?_)
              · exact ⟨keep1 HB6.out d1, keep1 HB6.out d2⟩
              clear hK K
              (try simp only [Act.put, List.setIfInBounds_toArray, List.set_cons_zero, List.set_cons_succ])
              refine wpAnyH_ready (rs := [10]) (by kernel_rfl) (by simp) ?_
              refine AllReadyH.cons (o := { dst := some 42, op := Op.call { callee := Callee.builtin Builtin.append, args := #[Operand.tmp 36, Operand.tmp 41], argTypes := #[44, 44] }, type := 44, pos := "l2_counts.go:213", after := #[{ on := 4, ground := Ground.data }, { on := 9, ground := Ground.data }, { on := 4, ground := Ground.chain }], guard := none }) rfl (fun K hK => ?_) AllReadyH.nil
              refine step_append_any _ (by rfl) _ _ 44 (by rfl) wc.heap.size 66 i0 (.agg #[.string ⟨#[]⟩, .slice none 0 0]) 2 40 Tryz.underlying44 hi0 hzz hzs hzb rfl (by decide) (.slice (some ⟨g3, 0, none⟩) i c3) i xsA (by rfl) OW7.out (by simp) ⟨w3.heap.size, 0, none⟩ 1 1 [.string lb, .slice sa sn sc] (by rfl) (by rfl) (World.news_of_block BX8.out) (by simp [Value.oneCell']) (i + 1) (xsA ++ [.string lb, .slice sa sn sc]) (by rfl) (by rfl) (by unfold maxLen; omega) (by omega) HB6.out.size ?_
              intro g9 c9 w9 hown9 hgr9
              have HB10 := Lib.hid (HB6.out.grown hgr9 HB6.out.size (fun q e => (OW7.out.lt q e).1))
              have OW11 := Lib.hid hown9
              clear hown9 hgr9
              refine hK.out _ _ ?_ (fun hHeld => ?_)
              · exact ⟨keep1 HB10.out d1, keep1 HB10.out d2⟩
              clear hK K
              (try simp only [Act.put, List.setIfInBounds_toArray, List.set_cons_zero, List.set_cons_succ])
              refine wpAnyH_ready (rs := [14]) (by kernel_rfl) (by simp) ?_
              refine AllReadyH.cons (o := { dst := some 46, op := Op.call { callee := Callee.builtin Builtin.append, args := #[Operand.tmp 42, Operand.tmp 45], argTypes := #[44, 44] }, type := 44, pos := "l2_counts.go:213", after := #[{ on := 10, ground := Ground.data }, { on := 13, ground := Ground.data }, { on := 10, ground := Ground.chain }], guard := none }) rfl (fun K hK => ?_) AllReadyH.nil
              refine step_append_any _ (by rfl) _ _ 44 (by rfl) wc.heap.size 66 i0 (.agg #[.string ⟨#[]⟩, .slice none 0 0]) 2 40 Tryz.underlying44 hi0 hzz hzs hzb rfl (by decide) (.slice (some ⟨g9, 0, none⟩) (i + 1) c9) (i + 1) (xsA ++ [.string lb, .slice sa sn sc]) (by rfl) OW11.out (by simp) ⟨gq, 0, none⟩ 0 _ xsC (by rfl) XC1'.out (fun j u hu => keep1 HB10.out (XC2.out j u hu)) XC3.out (i + 1) ((xsA ++ [.string lb, .slice sa sn sc]) ++ xsC) (by omega) (by rfl) (by unfold maxLen; omega) (by omega) HB10.out.size ?_
              intro g12 c12 w12 hown12 hgr12
              have HB13 := Lib.hid (HB10.out.grown hgr12 HB10.out.size (fun q e => (OW11.out.lt q e).1))
              have OW14 := Lib.hid hown12
              clear hown12 hgr12
              refine hK.out _ _ ?_ (fun hHeld => ?_)
              · exact ⟨keep1 HB13.out d1, keep1 HB13.out d2⟩
              clear hK K
              (try simp only [Act.put, List.setIfInBounds_toArray, List.set_cons_zero, List.set_cons_succ])
              refine wpAnyH_take (i := 15) (oi := { dst := some 3, op := Op.assign (Operand.tmp 46), type := 44, pos := "l2_counts.go:213", after := #[{ on := 14, ground := Ground.data }, { on := 14, ground := Ground.chain }, { on := 0, ground := Ground.phase }, { on := 1, ground := Ground.phase }, { on := 2, ground := Ground.phase }, { on := 3, ground := Ground.phase }, { on := 4, ground := Ground.phase }, { on := 5, ground := Ground.phase }, { on := 6, ground := Ground.phase }, { on := 7, ground := Ground.phase }, { on := 8, ground := Ground.phase }, { on := 9, ground := Ground.phase }, { on := 10, ground := Ground.phase }, { on := 11, ground := Ground.phase }, { on := 12, ground := Ground.phase }, { on := 13, ground := Ground.phase }, { on := 14, ground := Ground.phase }], guard := none }) (v := ?_) rfl (by kernel_rfl) (by kernel_rfl) (by kernel_rfl) (fun _ _ _ h => h) (Or.inl ⟨by rfl, ?_⟩) (by assumption) ?_
              rotate_left
              · (intro w hSw; (try dsimp only at hSw); go_simp <;> with_reducible rfl)
              (try simp only [Act.put, List.setIfInBounds_toArray, List.set_cons_zero, List.set_cons_succ])
              refine wpAnyH_done (by kernel_rfl) ?_ _
              all_goals
                go_wp2_with fail
                go_roundw
                case rel => exact FIN.out _ _ _ OW14.out HB13.out
                case measure => simp [intOf]; omega
            refine AllReadyH.cons (o := { dst := some 41, op := Op.buildSlice 44 1 #[(0, Operand.tmp 40)], type := 44, pos := "l2_counts.go:213", after := #[{ on := 8, ground := Ground.data }], guard := none }) rfl (fun K hK => ?_) AllReadyH.nil
            go_simp
            go_wp2_with fail
            have HB15 := Lib.hid (HB1.out.alloc HB1.out.size (.cells #[.string lb, .slice sa sn sc] 66 (0, 0)))
            have OW16 := Lib.hid (World.ownsRow.alloc OW2.out (.cells #[.string lb, .slice sa sn sc] 66 (0, 0)))
            have BX17 : Hid (((wc.drew.alloc (.cells #[] 66 (0, 0))).alloc (.cells #[.string lb, .slice sa sn sc] 66 (0, 0))).heap[wc.heap.size + 1]? = some (.cells #[.string lb, .slice sa sn sc] 66 (0, 0))) := Lib.hid (by rw [show wc.heap.size + 1 = (wc.drew.alloc (.cells #[] 66 (0, 0))).heap.size by simp]; exact heap_alloc_new (wc.drew.alloc (.cells #[] 66 (0, 0))) _)
            refine hK.out _ _ ?_ (fun hHeld => ?_)
            · exact ⟨keep1 HB15.out d1, keep1 HB15.out d2⟩
            clear hK K
            (try simp only [Act.put, List.setIfInBounds_toArray, List.set_cons_zero, List.set_cons_succ])
            refine wpAnyH_ready (rs := [4]) (by kernel_rfl) (by simp) ?_
            refine AllReadyH.cons (o := { dst := some 36, op := Op.call { callee := Callee.builtin Builtin.append, args := #[Operand.tmp 32, Operand.tmp 35], argTypes := #[44, 44] }, type := 44, pos := "l2_counts.go:213", after := #[{ on := 0, ground := Ground.data }, { on := 3, ground := Ground.data }], guard := none }) rfl (fun K hK => ?_) AllReadyH.nil
            refine step_append_any _ (by rfl) _ _ 44 (by rfl) wc.heap.size 66 i0 (.agg #[.string ⟨#[]⟩, .slice none 0 0]) 2 40 Tryz.underlying44 hi0 hzz hzs hzb rfl (by decide) (.slice (some ⟨wc.heap.size, 0, none⟩) 0 0) 0 [] (by rfl) OW16.out (by simp) ⟨gq, 0, none⟩ i i xsA (by rfl) XA1.out (fun j u hu => keep1 HB15.out (XA2.out j u hu)) XA3.out i xsA (by omega) (by rfl) (by unfold maxLen; omega) (by omega) HB15.out.size ?_
            intro g18 c18 w18 hown18 hgr18
            have HB19 := Lib.hid (HB15.out.grown hgr18 HB15.out.size (fun q e => (OW16.out.lt q e).1))
            have OW20 := Lib.hid hown18
            have BX21 := Lib.hid ((hgr18.block _ (Array.getElem?_eq_some_iff.1 BX17.out).1 (fun e => by simp [Value.ownBlock] at e)).trans BX17.out)
            clear hown18 hgr18
            refine hK.out _ _ ?_ (fun hHeld => ?_)
            · exact ⟨keep1 HB19.out d1, keep1 HB19.out d2⟩
            clear hK K
            (try simp only [Act.put, List.setIfInBounds_toArray, List.set_cons_zero, List.set_cons_succ])
            refine wpAnyH_ready (rs := [10]) (by kernel_rfl) (by simp) ?_
            refine AllReadyH.cons (o := { dst := some 42, op := Op.call { callee := Callee.builtin Builtin.append, args := #[Operand.tmp 36, Operand.tmp 41], argTypes := #[44, 44] }, type := 44, pos := "l2_counts.go:213", after := #[{ on := 4, ground := Ground.data }, { on := 9, ground := Ground.data }, { on := 4, ground := Ground.chain }], guard := none }) rfl (fun K hK => ?_) AllReadyH.nil
            refine step_append_any _ (by rfl) _ _ 44 (by rfl) wc.heap.size 66 i0 (.agg #[.string ⟨#[]⟩, .slice none 0 0]) 2 40 Tryz.underlying44 hi0 hzz hzs hzb rfl (by decide) (.slice (some ⟨g18, 0, none⟩) i c18) i xsA (by rfl) OW20.out (by simp) ⟨wc.heap.size + 1, 0, none⟩ 1 1 [.string lb, .slice sa sn sc] (by rfl) (by rfl) (World.news_of_block BX21.out) (by simp [Value.oneCell']) (i + 1) (xsA ++ [.string lb, .slice sa sn sc]) (by rfl) (by rfl) (by unfold maxLen; omega) (by omega) HB19.out.size ?_
            intro g22 c22 w22 hown22 hgr22
            have HB23 := Lib.hid (HB19.out.grown hgr22 HB19.out.size (fun q e => (OW20.out.lt q e).1))
            have OW24 := Lib.hid hown22
            clear hown22 hgr22
            refine hK.out _ _ ?_ (fun hHeld => ?_)
            · exact ⟨keep1 HB23.out d1, keep1 HB23.out d2⟩
            clear hK K
            (try simp only [Act.put, List.setIfInBounds_toArray, List.set_cons_zero, List.set_cons_succ])
            refine wpAnyH_ready (rs := [14]) (by kernel_rfl) (by simp) ?_
            refine AllReadyH.cons (o := { dst := some 46, op := Op.call { callee := Callee.builtin Builtin.append, args := #[Operand.tmp 42, Operand.tmp 45], argTypes := #[44, 44] }, type := 44, pos := "l2_counts.go:213", after := #[{ on := 10, ground := Ground.data }, { on := 13, ground := Ground.data }, { on := 10, ground := Ground.chain }], guard := none }) rfl (fun K hK => ?_) AllReadyH.nil
            refine step_append_any _ (by rfl) _ _ 44 (by rfl) wc.heap.size 66 i0 (.agg #[.string ⟨#[]⟩, .slice none 0 0]) 2 40 Tryz.underlying44 hi0 hzz hzs hzb rfl (by decide) (.slice (some ⟨g22, 0, none⟩) (i + 1) c22) (i + 1) (xsA ++ [.string lb, .slice sa sn sc]) (by rfl) OW24.out (by simp) ⟨gq, 0, none⟩ 0 _ xsC (by rfl) XC1'.out (fun j u hu => keep1 HB23.out (XC2.out j u hu)) XC3.out (i + 1) ((xsA ++ [.string lb, .slice sa sn sc]) ++ xsC) (by omega) (by rfl) (by unfold maxLen; omega) (by omega) HB23.out.size ?_
            intro g25 c25 w25 hown25 hgr25
            have HB26 := Lib.hid (HB23.out.grown hgr25 HB23.out.size (fun q e => (OW24.out.lt q e).1))
            have OW27 := Lib.hid hown25
            clear hown25 hgr25
            refine hK.out _ _ ?_ (fun hHeld => ?_)
            · exact ⟨keep1 HB26.out d1, keep1 HB26.out d2⟩
            clear hK K
            (try simp only [Act.put, List.setIfInBounds_toArray, List.set_cons_zero, List.set_cons_succ])
            refine wpAnyH_take (i := 15) (oi := { dst := some 3, op := Op.assign (Operand.tmp 46), type := 44, pos := "l2_counts.go:213", after := #[{ on := 14, ground := Ground.data }, { on := 14, ground := Ground.chain }, { on := 0, ground := Ground.phase }, { on := 1, ground := Ground.phase }, { on := 2, ground := Ground.phase }, { on := 3, ground := Ground.phase }, { on := 4, ground := Ground.phase }, { on := 5, ground := Ground.phase }, { on := 6, ground := Ground.phase }, { on := 7, ground := Ground.phase }, { on := 8, ground := Ground.phase }, { on := 9, ground := Ground.phase }, { on := 10, ground := Ground.phase }, { on := 11, ground := Ground.phase }, { on := 12, ground := Ground.phase }, { on := 13, ground := Ground.phase }, { on := 14, ground := Ground.phase }], guard := none }) (v := ?_) rfl (by kernel_rfl) (by kernel_rfl) (by kernel_rfl) (fun _ _ _ h => h) (Or.inl ⟨by rfl, ?_⟩) (by assumption) ?_
            rotate_left
            · (intro w hSw; (try dsimp only at hSw); go_simp <;> with_reducible rfl)
            (try simp only [Act.put, List.setIfInBounds_toArray, List.set_cons_zero, List.set_cons_succ])
            refine wpAnyH_done (by kernel_rfl) ?_ _
            all_goals
              go_wp2_with fail
              go_roundw
              case rel => exact FIN.out _ _ _ OW27.out HB26.out
              case measure => simp [intOf]; omega
          refine AllReadyH.cons (o := { dst := some 41, op := Op.buildSlice 44 1 #[(0, Operand.tmp 40)], type := 44, pos := "l2_counts.go:213", after := #[{ on := 8, ground := Ground.data }], guard := none }) rfl (fun K hK => ?_) AllReadyH.nil
          go_simp
          go_wp2_with fail
          have HB28 := Lib.hid (HBD.out.alloc HBD.out.size (.cells #[.string lb, .slice sa sn sc] 66 (0, 0)))
          have BX29 : Hid ((wc.drew.alloc (.cells #[.string lb, .slice sa sn sc] 66 (0, 0))).heap[wc.heap.size]? = some (.cells #[.string lb, .slice sa sn sc] 66 (0, 0))) := Lib.hid (by exact heap_alloc_new wc.drew _)
          refine hK.out _ _ ?_ (fun hHeld => ?_)
          · exact ⟨keep1 HB28.out d1, keep1 HB28.out d2⟩
          clear hK K
          (try simp only [Act.put, List.setIfInBounds_toArray, List.set_cons_zero, List.set_cons_succ])
          refine wpAnyH_ready (rs := [0]) (by kernel_rfl) (by simp) ?_
          refine AllReadyH.cons (o := { dst := some 32, op := Op.buildSlice 44 0 #[], type := 44, pos := "l2_counts.go:213", after := #[], guard := none }) rfl (fun K hK => ?_) AllReadyH.nil
          go_simp
          go_wp2_with fail
          have HB30 := Lib.hid (HB28.out.alloc HB28.out.size (.cells #[] 66 (0, 0)))
          have OW31 : Hid (World.ownsRow ((wc.drew.alloc (.cells #[.string lb, .slice sa sn sc] 66 (0, 0))).alloc (.cells #[] 66 (0, 0))) wc.heap.size 66 2 (.slice (some ⟨wc.heap.size + 1, 0, none⟩) 0 0) 0 []) := Lib.hid (by rw [show wc.heap.size + 1 = (wc.drew.alloc (.cells #[.string lb, .slice sa sn sc] 66 (0, 0))).heap.size by simp]; exact World.ownsRow_made (wc.drew.alloc (.cells #[.string lb, .slice sa sn sc] 66 (0, 0))) #[] 0 HB28.out.size (by simp [maxLen]) rfl)
          have BX32 := Lib.hid ((Below.heap_alloc (wc.drew.alloc (.cells #[.string lb, .slice sa sn sc] 66 (0, 0))) (.cells #[] 66 (0, 0)) _ (Array.getElem?_eq_some_iff.1 BX29.out).1).trans BX29.out)
          refine hK.out _ _ ?_ (fun hHeld => ?_)
          · exact ⟨keep1 HB30.out d1, keep1 HB30.out d2⟩
          clear hK K
          (try simp only [Act.put, List.setIfInBounds_toArray, List.set_cons_zero, List.set_cons_succ])
          refine wpAnyH_ready (rs := [4]) (by kernel_rfl) (by simp) ?_
          refine AllReadyH.cons (o := { dst := some 36, op := Op.call { callee := Callee.builtin Builtin.append, args := #[Operand.tmp 32, Operand.tmp 35], argTypes := #[44, 44] }, type := 44, pos := "l2_counts.go:213", after := #[{ on := 0, ground := Ground.data }, { on := 3, ground := Ground.data }], guard := none }) rfl (fun K hK => ?_) AllReadyH.nil
          refine step_append_any _ (by rfl) _ _ 44 (by rfl) wc.heap.size 66 i0 (.agg #[.string ⟨#[]⟩, .slice none 0 0]) 2 40 Tryz.underlying44 hi0 hzz hzs hzb rfl (by decide) (.slice (some ⟨wc.heap.size + 1, 0, none⟩) 0 0) 0 [] (by rfl) OW31.out (by simp) ⟨gq, 0, none⟩ i i xsA (by rfl) XA1.out (fun j u hu => keep1 HB30.out (XA2.out j u hu)) XA3.out i xsA (by omega) (by rfl) (by unfold maxLen; omega) (by omega) HB30.out.size ?_
          intro g33 c33 w33 hown33 hgr33
          have HB34 := Lib.hid (HB30.out.grown hgr33 HB30.out.size (fun q e => (OW31.out.lt q e).1))
          have OW35 := Lib.hid hown33
          have BX36 := Lib.hid ((hgr33.block _ (Array.getElem?_eq_some_iff.1 BX32.out).1 (fun e => by simp [Value.ownBlock] at e)).trans BX32.out)
          clear hown33 hgr33
          refine hK.out _ _ ?_ (fun hHeld => ?_)
          · exact ⟨keep1 HB34.out d1, keep1 HB34.out d2⟩
          clear hK K
          (try simp only [Act.put, List.setIfInBounds_toArray, List.set_cons_zero, List.set_cons_succ])
          refine wpAnyH_ready (rs := [10]) (by kernel_rfl) (by simp) ?_
          refine AllReadyH.cons (o := { dst := some 42, op := Op.call { callee := Callee.builtin Builtin.append, args := #[Operand.tmp 36, Operand.tmp 41], argTypes := #[44, 44] }, type := 44, pos := "l2_counts.go:213", after := #[{ on := 4, ground := Ground.data }, { on := 9, ground := Ground.data }, { on := 4, ground := Ground.chain }], guard := none }) rfl (fun K hK => ?_) AllReadyH.nil
          refine step_append_any _ (by rfl) _ _ 44 (by rfl) wc.heap.size 66 i0 (.agg #[.string ⟨#[]⟩, .slice none 0 0]) 2 40 Tryz.underlying44 hi0 hzz hzs hzb rfl (by decide) (.slice (some ⟨g33, 0, none⟩) i c33) i xsA (by rfl) OW35.out (by simp) ⟨wc.heap.size, 0, none⟩ 1 1 [.string lb, .slice sa sn sc] (by rfl) (by rfl) (World.news_of_block BX36.out) (by simp [Value.oneCell']) (i + 1) (xsA ++ [.string lb, .slice sa sn sc]) (by rfl) (by rfl) (by unfold maxLen; omega) (by omega) HB34.out.size ?_
          intro g37 c37 w37 hown37 hgr37
          have HB38 := Lib.hid (HB34.out.grown hgr37 HB34.out.size (fun q e => (OW35.out.lt q e).1))
          have OW39 := Lib.hid hown37
          clear hown37 hgr37
          refine hK.out _ _ ?_ (fun hHeld => ?_)
          · exact ⟨keep1 HB38.out d1, keep1 HB38.out d2⟩
          clear hK K
          (try simp only [Act.put, List.setIfInBounds_toArray, List.set_cons_zero, List.set_cons_succ])
          refine wpAnyH_ready (rs := [14]) (by kernel_rfl) (by simp) ?_
          refine AllReadyH.cons (o := { dst := some 46, op := Op.call { callee := Callee.builtin Builtin.append, args := #[Operand.tmp 42, Operand.tmp 45], argTypes := #[44, 44] }, type := 44, pos := "l2_counts.go:213", after := #[{ on := 10, ground := Ground.data }, { on := 13, ground := Ground.data }, { on := 10, ground := Ground.chain }], guard := none }) rfl (fun K hK => ?_) AllReadyH.nil
          refine step_append_any _ (by rfl) _ _ 44 (by rfl) wc.heap.size 66 i0 (.agg #[.string ⟨#[]⟩, .slice none 0 0]) 2 40 Tryz.underlying44 hi0 hzz hzs hzb rfl (by decide) (.slice (some ⟨g37, 0, none⟩) (i + 1) c37) (i + 1) (xsA ++ [.string lb, .slice sa sn sc]) (by rfl) OW39.out (by simp) ⟨gq, 0, none⟩ 0 _ xsC (by rfl) XC1'.out (fun j u hu => keep1 HB38.out (XC2.out j u hu)) XC3.out (i + 1) ((xsA ++ [.string lb, .slice sa sn sc]) ++ xsC) (by omega) (by rfl) (by unfold maxLen; omega) (by omega) HB38.out.size ?_
          intro g40 c40 w40 hown40 hgr40
          have HB41 := Lib.hid (HB38.out.grown hgr40 HB38.out.size (fun q e => (OW39.out.lt q e).1))
          have OW42 := Lib.hid hown40
          clear hown40 hgr40
          refine hK.out _ _ ?_ (fun hHeld => ?_)
          · exact ⟨keep1 HB41.out d1, keep1 HB41.out d2⟩
          clear hK K
          (try simp only [Act.put, List.setIfInBounds_toArray, List.set_cons_zero, List.set_cons_succ])
          refine wpAnyH_take (i := 15) (oi := { dst := some 3, op := Op.assign (Operand.tmp 46), type := 44, pos := "l2_counts.go:213", after := #[{ on := 14, ground := Ground.data }, { on := 14, ground := Ground.chain }, { on := 0, ground := Ground.phase }, { on := 1, ground := Ground.phase }, { on := 2, ground := Ground.phase }, { on := 3, ground := Ground.phase }, { on := 4, ground := Ground.phase }, { on := 5, ground := Ground.phase }, { on := 6, ground := Ground.phase }, { on := 7, ground := Ground.phase }, { on := 8, ground := Ground.phase }, { on := 9, ground := Ground.phase }, { on := 10, ground := Ground.phase }, { on := 11, ground := Ground.phase }, { on := 12, ground := Ground.phase }, { on := 13, ground := Ground.phase }, { on := 14, ground := Ground.phase }], guard := none }) (v := ?_) rfl (by kernel_rfl) (by kernel_rfl) (by kernel_rfl) (fun _ _ _ h => h) (Or.inl ⟨by rfl, ?_⟩) (by assumption) ?_
          rotate_left
          · (intro w hSw; (try dsimp only at hSw); go_simp <;> with_reducible rfl)
          (try simp only [Act.put, List.setIfInBounds_toArray, List.set_cons_zero, List.set_cons_succ])
          refine wpAnyH_done (by kernel_rfl) ?_ _
          all_goals
            go_wp2_with fail
            go_roundw
            case rel => exact FIN.out _ _ _ OW42.out HB41.out
            case measure => simp [intOf]; omega
        · have XC2 : Hid (∀ j u, xsC[j]? = some u → wc.cell? ((⟨gq, k * 2, none⟩ : Addr).add j) = some u) := Lib.hid (fun j u hu => by
            have e : (⟨gq, k * 2, none⟩ : Addr).add j = ⟨gq, k * 2 + j, none⟩ := by unfold Addr.add; split <;> simp_all
            rw [e]; exact qC j u hu)
          clear pA pC qA qC rA rC hxsA hxsC hrt hRU hBc hka hkb
          go_wp2_with fail
          refine wp_region_held_drew (S := (fun w' => w'.cell? ⟨ga, i * 2, none⟩ = some (.string lb) ∧ w'.cell? ⟨ga, i * 2 + 1, none⟩ = some (.slice sa sn sc))) (by kernel_rfl) (by exact ⟨d1, d2⟩) (fun hHeld => ?_)
          refine wpAnyH_take (i := 1) (oi := { dst := some 33, op := Op.move (Operand.tmp 3), type := 44, pos := "l2_counts.go:213", after := #[], guard := none }) (v := ?_) rfl (by kernel_rfl) (by kernel_rfl) (by kernel_rfl) (fun _ _ _ h => h) (Or.inl ⟨by rfl, ?_⟩) (by assumption) ?_
          rotate_left
          · (intro w hSw; (try dsimp only at hSw); go_simp <;> with_reducible rfl)
          (try simp only [Act.put, List.setIfInBounds_toArray, List.set_cons_zero, List.set_cons_succ])
          refine wpAnyH_take (i := 2) (oi := { dst := some 34, op := Op.move (Operand.tmp 5), type := 3, pos := "l2_counts.go:213", after := #[], guard := none }) (v := ?_) rfl (by kernel_rfl) (by kernel_rfl) (by kernel_rfl) (fun _ _ _ h => h) (Or.inl ⟨by rfl, ?_⟩) (by assumption) ?_
          rotate_left
          · (intro w hSw; (try dsimp only at hSw); go_simp <;> with_reducible rfl)
          (try simp only [Act.put, List.setIfInBounds_toArray, List.set_cons_zero, List.set_cons_succ])
          refine wpAnyH_take (i := 3) (oi := { dst := some 35, op := Op.slice 44 (Operand.tmp 33) none (some (Operand.tmp 34)) none, type := 44, pos := "l2_counts.go:213", after := #[{ on := 1, ground := Ground.data }, { on := 2, ground := Ground.data }], guard := none }) (v := ?_) rfl (by kernel_rfl) (by kernel_rfl) (by kernel_rfl) (fun _ _ _ h => h) (Or.inl ⟨by rfl, ?_⟩) (by assumption) ?_
          rotate_left
          · (intro w hSw; (try dsimp only at hSw); go_simp <;> with_reducible rfl)
          (try simp only [Act.put, List.setIfInBounds_toArray, List.set_cons_zero, List.set_cons_succ])
          refine wpAnyH_take (i := 5) (oi := { dst := some 37, op := Op.move (Operand.tmp 0), type := 44, pos := "l2_counts.go:213", after := #[], guard := none }) (v := ?_) rfl (by kernel_rfl) (by kernel_rfl) (by kernel_rfl) (fun _ _ _ h => h) (Or.inl ⟨by rfl, ?_⟩) (by assumption) ?_
          rotate_left
          · (intro w hSw; (try dsimp only at hSw); go_simp <;> with_reducible rfl)
          (try simp only [Act.put, List.setIfInBounds_toArray, List.set_cons_zero, List.set_cons_succ])
          refine wpAnyH_take (i := 6) (oi := { dst := some 38, op := Op.move (Operand.tmp 4), type := 3, pos := "l2_counts.go:213", after := #[], guard := none }) (v := ?_) rfl (by kernel_rfl) (by kernel_rfl) (by kernel_rfl) (fun _ _ _ h => h) (Or.inl ⟨by rfl, ?_⟩) (by assumption) ?_
          rotate_left
          · (intro w hSw; (try dsimp only at hSw); go_simp <;> with_reducible rfl)
          (try simp only [Act.put, List.setIfInBounds_toArray, List.set_cons_zero, List.set_cons_succ])
          refine wpAnyH_take (i := 7) (oi := { dst := some 39, op := Op.indexAddr 44 (Operand.tmp 37) (Operand.tmp 38), type := 0, pos := "l2_counts.go:213", after := #[{ on := 5, ground := Ground.data }, { on := 6, ground := Ground.data }], guard := none }) (v := ?_) rfl (by kernel_rfl) (by kernel_rfl) (by kernel_rfl) (fun _ _ _ h => h) (Or.inl ⟨by rfl, ?_⟩) (by assumption) ?_
          rotate_left
          · (intro w hSw; (try dsimp only at hSw); go_simp <;> with_reducible rfl)
          (try simp only [Act.put, List.setIfInBounds_toArray, List.set_cons_zero, List.set_cons_succ])
          refine wpAnyH_take (i := 8) (oi := { dst := some 40, op := Op.load 66 (Operand.tmp 39), type := 66, pos := "l2_counts.go:213", after := #[{ on := 7, ground := Ground.data }], guard := none }) (v := ?_) rfl (by kernel_rfl) (by kernel_rfl) (by kernel_rfl) (fun _ _ _ h => h) (Or.inl ⟨by rfl, ?_⟩) (by assumption) ?_
          rotate_left
          · (intro w hSw; (try dsimp only at hSw); go_simp <;> with_reducible rfl)
          (try simp only [Act.put, List.setIfInBounds_toArray, List.set_cons_zero, List.set_cons_succ])
          refine wpAnyH_take (i := 11) (oi := { dst := some 43, op := Op.move (Operand.tmp 3), type := 44, pos := "l2_counts.go:213", after := #[], guard := none }) (v := ?_) rfl (by kernel_rfl) (by kernel_rfl) (by kernel_rfl) (fun _ _ _ h => h) (Or.inl ⟨by rfl, ?_⟩) (by assumption) ?_
          rotate_left
          · (intro w hSw; (try dsimp only at hSw); go_simp <;> with_reducible rfl)
          (try simp only [Act.put, List.setIfInBounds_toArray, List.set_cons_zero, List.set_cons_succ])
          refine wpAnyH_take (i := 12) (oi := { dst := some 44, op := Op.move (Operand.tmp 5), type := 3, pos := "l2_counts.go:213", after := #[], guard := none }) (v := ?_) rfl (by kernel_rfl) (by kernel_rfl) (by kernel_rfl) (fun _ _ _ h => h) (Or.inl ⟨by rfl, ?_⟩) (by assumption) ?_
          rotate_left
          · (intro w hSw; (try dsimp only at hSw); go_simp <;> with_reducible rfl)
          (try simp only [Act.put, List.setIfInBounds_toArray, List.set_cons_zero, List.set_cons_succ])
          refine wpAnyH_take (i := 13) (oi := { dst := some 45, op := Op.slice 44 (Operand.tmp 43) (some (Operand.tmp 44)) none none, type := 44, pos := "l2_counts.go:213", after := #[{ on := 11, ground := Ground.data }, { on := 12, ground := Ground.data }], guard := none }) (v := ?_) rfl (by kernel_rfl) (by kernel_rfl) (by kernel_rfl) (fun _ _ _ h => h) (Or.inl ⟨by rfl, ?_⟩) (by assumption) ?_
          rotate_left
          · (intro w hSw; (try dsimp only at hSw); go_simp <;> with_reducible rfl)
          (try simp only [Act.put, List.setIfInBounds_toArray, List.set_cons_zero, List.set_cons_succ])
          have HBD := Lib.hid (Below.refl wc.heap.size wc).drew
          refine wpAnyH_ready (rs := [0, 9]) (by kernel_rfl) (by simp) ?_
          refine AllReadyH.cons (o := { dst := some 32, op := Op.buildSlice 44 0 #[], type := 44, pos := "l2_counts.go:213", after := #[], guard := none }) rfl ?_ ?_
          · intro K hK
            go_simp
            go_wp2_with fail
            have HB43 := Lib.hid (HBD.out.alloc HBD.out.size (.cells #[] 66 (0, 0)))
            have OW44 : Hid (World.ownsRow (wc.drew.alloc (.cells #[] 66 (0, 0))) wc.heap.size 66 2 (.slice (some ⟨wc.heap.size, 0, none⟩) 0 0) 0 []) := Lib.hid (by exact World.ownsRow_made wc.drew #[] 0 HBD.out.size (by simp [maxLen]) rfl)
            refine hK.out _ _ ?_ (fun hHeld => ?_)
            · exact ⟨keep1 HB43.out d1, keep1 HB43.out d2⟩
            clear hK K
            (try simp only [Act.put, List.setIfInBounds_toArray, List.set_cons_zero, List.set_cons_succ])
            refine wpAnyH_ready (rs := [4, 9]) (by kernel_rfl) (by simp) ?_
            refine AllReadyH.cons (o := { dst := some 36, op := Op.call { callee := Callee.builtin Builtin.append, args := #[Operand.tmp 32, Operand.tmp 35], argTypes := #[44, 44] }, type := 44, pos := "l2_counts.go:213", after := #[{ on := 0, ground := Ground.data }, { on := 3, ground := Ground.data }], guard := none }) rfl ?_ ?_
            · intro K hK
              refine step_append_any _ (by rfl) _ _ 44 (by rfl) wc.heap.size 66 i0 (.agg #[.string ⟨#[]⟩, .slice none 0 0]) 2 40 Tryz.underlying44 hi0 hzz hzs hzb rfl (by decide) (.slice (some ⟨wc.heap.size, 0, none⟩) 0 0) 0 [] (by rfl) OW44.out (by simp) ⟨gq, 0, none⟩ k cq xsA (by rfl) XA1.out (fun j u hu => keep1 HB43.out (XA2.out j u hu)) XA3.out k xsA (by omega) (by rfl) (by unfold maxLen; omega) (by omega) HB43.out.size ?_
              intro g45 c45 w45 hown45 hgr45
              have HB46 := Lib.hid (HB43.out.grown hgr45 HB43.out.size (fun q e => (OW44.out.lt q e).1))
              have OW47 := Lib.hid hown45
              clear hown45 hgr45
              refine hK.out _ _ ?_ (fun hHeld => ?_)
              · exact ⟨keep1 HB46.out d1, keep1 HB46.out d2⟩
              clear hK K
              (try simp only [Act.put, List.setIfInBounds_toArray, List.set_cons_zero, List.set_cons_succ])
              refine wpAnyH_ready (rs := [9]) (by kernel_rfl) (by simp) ?_
              refine AllReadyH.cons (o := { dst := some 41, op := Op.buildSlice 44 1 #[(0, Operand.tmp 40)], type := 44, pos := "l2_counts.go:213", after := #[{ on := 8, ground := Ground.data }], guard := none }) rfl (fun K hK => ?_) AllReadyH.nil
              go_simp
              go_wp2_with fail
              have HB48 := Lib.hid (HB46.out.alloc HB46.out.size (.cells #[.string lb, .slice sa sn sc] 66 (0, 0)))
              have OW49 := Lib.hid (World.ownsRow.alloc OW47.out (.cells #[.string lb, .slice sa sn sc] 66 (0, 0)))
              have BX50 : Hid ((w45.alloc (.cells #[.string lb, .slice sa sn sc] 66 (0, 0))).heap[w45.heap.size]? = some (.cells #[.string lb, .slice sa sn sc] 66 (0, 0))) := Lib.hid (by exact heap_alloc_new w45 _)
              refine hK.out _ _ ?_ (fun hHeld => ?_)
              · exact ⟨keep1 HB48.out d1, keep1 HB48.out d2⟩
              clear hK K
              (try simp only [Act.put, List.setIfInBounds_toArray, List.set_cons_zero, List.set_cons_succ])
              refine wpAnyH_ready (rs := [10]) (by kernel_rfl) (by simp) ?_
              refine AllReadyH.cons (o := { dst := some 42, op := Op.call { callee := Callee.builtin Builtin.append, args := #[Operand.tmp 36, Operand.tmp 41], argTypes := #[44, 44] }, type := 44, pos := "l2_counts.go:213", after := #[{ on := 4, ground := Ground.data }, { on := 9, ground := Ground.data }, { on := 4, ground := Ground.chain }], guard := none }) rfl (fun K hK => ?_) AllReadyH.nil
              refine step_append_any _ (by rfl) _ _ 44 (by rfl) wc.heap.size 66 i0 (.agg #[.string ⟨#[]⟩, .slice none 0 0]) 2 40 Tryz.underlying44 hi0 hzz hzs hzb rfl (by decide) (.slice (some ⟨g45, 0, none⟩) k c45) k xsA (by rfl) OW49.out (by simp) ⟨w45.heap.size, 0, none⟩ 1 1 [.string lb, .slice sa sn sc] (by rfl) (by rfl) (World.news_of_block BX50.out) (by simp [Value.oneCell']) (k + 1) (xsA ++ [.string lb, .slice sa sn sc]) (by rfl) (by rfl) (by unfold maxLen; omega) (by omega) HB48.out.size ?_
              intro g51 c51 w51 hown51 hgr51
              have HB52 := Lib.hid (HB48.out.grown hgr51 HB48.out.size (fun q e => (OW49.out.lt q e).1))
              have OW53 := Lib.hid hown51
              clear hown51 hgr51
              refine hK.out _ _ ?_ (fun hHeld => ?_)
              · exact ⟨keep1 HB52.out d1, keep1 HB52.out d2⟩
              clear hK K
              (try simp only [Act.put, List.setIfInBounds_toArray, List.set_cons_zero, List.set_cons_succ])
              refine wpAnyH_ready (rs := [14]) (by kernel_rfl) (by simp) ?_
              refine AllReadyH.cons (o := { dst := some 46, op := Op.call { callee := Callee.builtin Builtin.append, args := #[Operand.tmp 42, Operand.tmp 45], argTypes := #[44, 44] }, type := 44, pos := "l2_counts.go:213", after := #[{ on := 10, ground := Ground.data }, { on := 13, ground := Ground.data }, { on := 10, ground := Ground.chain }], guard := none }) rfl (fun K hK => ?_) AllReadyH.nil
              refine step_append_any _ (by rfl) _ _ 44 (by rfl) wc.heap.size 66 i0 (.agg #[.string ⟨#[]⟩, .slice none 0 0]) 2 40 Tryz.underlying44 hi0 hzz hzs hzb rfl (by decide) (.slice (some ⟨g51, 0, none⟩) (k + 1) c51) (k + 1) (xsA ++ [.string lb, .slice sa sn sc]) (by rfl) OW53.out (by simp) ⟨gq, k * 2, none⟩ (i - k) _ xsC (by rfl) XC1.out (fun j u hu => keep1 HB52.out (XC2.out j u hu)) XC3.out (i + 1) ((xsA ++ [.string lb, .slice sa sn sc]) ++ xsC) (by omega) (by rfl) (by unfold maxLen; omega) (by omega) HB52.out.size ?_
              intro g54 c54 w54 hown54 hgr54
              have HB55 := Lib.hid (HB52.out.grown hgr54 HB52.out.size (fun q e => (OW53.out.lt q e).1))
              have OW56 := Lib.hid hown54
              clear hown54 hgr54
              refine hK.out _ _ ?_ (fun hHeld => ?_)
              · exact ⟨keep1 HB55.out d1, keep1 HB55.out d2⟩
              clear hK K
              (try simp only [Act.put, List.setIfInBounds_toArray, List.set_cons_zero, List.set_cons_succ])
              refine wpAnyH_take (i := 15) (oi := { dst := some 3, op := Op.assign (Operand.tmp 46), type := 44, pos := "l2_counts.go:213", after := #[{ on := 14, ground := Ground.data }, { on := 14, ground := Ground.chain }, { on := 0, ground := Ground.phase }, { on := 1, ground := Ground.phase }, { on := 2, ground := Ground.phase }, { on := 3, ground := Ground.phase }, { on := 4, ground := Ground.phase }, { on := 5, ground := Ground.phase }, { on := 6, ground := Ground.phase }, { on := 7, ground := Ground.phase }, { on := 8, ground := Ground.phase }, { on := 9, ground := Ground.phase }, { on := 10, ground := Ground.phase }, { on := 11, ground := Ground.phase }, { on := 12, ground := Ground.phase }, { on := 13, ground := Ground.phase }, { on := 14, ground := Ground.phase }], guard := none }) (v := ?_) rfl (by kernel_rfl) (by kernel_rfl) (by kernel_rfl) (fun _ _ _ h => h) (Or.inl ⟨by rfl, ?_⟩) (by assumption) ?_
              rotate_left
              · (intro w hSw; (try dsimp only at hSw); go_simp <;> with_reducible rfl)
              (try simp only [Act.put, List.setIfInBounds_toArray, List.set_cons_zero, List.set_cons_succ])
              refine wpAnyH_done (by kernel_rfl) ?_ _
              all_goals
                go_wp2_with fail
                go_roundw
                case rel => exact FIN.out _ _ _ OW56.out HB55.out
                case measure => simp [intOf]; omega
            refine AllReadyH.cons (o := { dst := some 41, op := Op.buildSlice 44 1 #[(0, Operand.tmp 40)], type := 44, pos := "l2_counts.go:213", after := #[{ on := 8, ground := Ground.data }], guard := none }) rfl (fun K hK => ?_) AllReadyH.nil
            go_simp
            go_wp2_with fail
            have HB57 := Lib.hid (HB43.out.alloc HB43.out.size (.cells #[.string lb, .slice sa sn sc] 66 (0, 0)))
            have OW58 := Lib.hid (World.ownsRow.alloc OW44.out (.cells #[.string lb, .slice sa sn sc] 66 (0, 0)))
            have BX59 : Hid (((wc.drew.alloc (.cells #[] 66 (0, 0))).alloc (.cells #[.string lb, .slice sa sn sc] 66 (0, 0))).heap[wc.heap.size + 1]? = some (.cells #[.string lb, .slice sa sn sc] 66 (0, 0))) := Lib.hid (by rw [show wc.heap.size + 1 = (wc.drew.alloc (.cells #[] 66 (0, 0))).heap.size by simp]; exact heap_alloc_new (wc.drew.alloc (.cells #[] 66 (0, 0))) _)
            refine hK.out _ _ ?_ (fun hHeld => ?_)
            · exact ⟨keep1 HB57.out d1, keep1 HB57.out d2⟩
            clear hK K
            (try simp only [Act.put, List.setIfInBounds_toArray, List.set_cons_zero, List.set_cons_succ])
            refine wpAnyH_ready (rs := [4]) (by kernel_rfl) (by simp) ?_
            refine AllReadyH.cons (o := { dst := some 36, op := Op.call { callee := Callee.builtin Builtin.append, args := #[Operand.tmp 32, Operand.tmp 35], argTypes := #[44, 44] }, type := 44, pos := "l2_counts.go:213", after := #[{ on := 0, ground := Ground.data }, { on := 3, ground := Ground.data }], guard := none }) rfl (fun K hK => ?_) AllReadyH.nil
            refine step_append_any _ (by rfl) _ _ 44 (by rfl) wc.heap.size 66 i0 (.agg #[.string ⟨#[]⟩, .slice none 0 0]) 2 40 Tryz.underlying44 hi0 hzz hzs hzb rfl (by decide) (.slice (some ⟨wc.heap.size, 0, none⟩) 0 0) 0 [] (by rfl) OW58.out (by simp) ⟨gq, 0, none⟩ k cq xsA (by rfl) XA1.out (fun j u hu => keep1 HB57.out (XA2.out j u hu)) XA3.out k xsA (by omega) (by rfl) (by unfold maxLen; omega) (by omega) HB57.out.size ?_
            intro g60 c60 w60 hown60 hgr60
            have HB61 := Lib.hid (HB57.out.grown hgr60 HB57.out.size (fun q e => (OW58.out.lt q e).1))
            have OW62 := Lib.hid hown60
            have BX63 := Lib.hid ((hgr60.block _ (Array.getElem?_eq_some_iff.1 BX59.out).1 (fun e => by simp [Value.ownBlock] at e)).trans BX59.out)
            clear hown60 hgr60
            refine hK.out _ _ ?_ (fun hHeld => ?_)
            · exact ⟨keep1 HB61.out d1, keep1 HB61.out d2⟩
            clear hK K
            (try simp only [Act.put, List.setIfInBounds_toArray, List.set_cons_zero, List.set_cons_succ])
            refine wpAnyH_ready (rs := [10]) (by kernel_rfl) (by simp) ?_
            refine AllReadyH.cons (o := { dst := some 42, op := Op.call { callee := Callee.builtin Builtin.append, args := #[Operand.tmp 36, Operand.tmp 41], argTypes := #[44, 44] }, type := 44, pos := "l2_counts.go:213", after := #[{ on := 4, ground := Ground.data }, { on := 9, ground := Ground.data }, { on := 4, ground := Ground.chain }], guard := none }) rfl (fun K hK => ?_) AllReadyH.nil
            refine step_append_any _ (by rfl) _ _ 44 (by rfl) wc.heap.size 66 i0 (.agg #[.string ⟨#[]⟩, .slice none 0 0]) 2 40 Tryz.underlying44 hi0 hzz hzs hzb rfl (by decide) (.slice (some ⟨g60, 0, none⟩) k c60) k xsA (by rfl) OW62.out (by simp) ⟨wc.heap.size + 1, 0, none⟩ 1 1 [.string lb, .slice sa sn sc] (by rfl) (by rfl) (World.news_of_block BX63.out) (by simp [Value.oneCell']) (k + 1) (xsA ++ [.string lb, .slice sa sn sc]) (by rfl) (by rfl) (by unfold maxLen; omega) (by omega) HB61.out.size ?_
            intro g64 c64 w64 hown64 hgr64
            have HB65 := Lib.hid (HB61.out.grown hgr64 HB61.out.size (fun q e => (OW62.out.lt q e).1))
            have OW66 := Lib.hid hown64
            clear hown64 hgr64
            refine hK.out _ _ ?_ (fun hHeld => ?_)
            · exact ⟨keep1 HB65.out d1, keep1 HB65.out d2⟩
            clear hK K
            (try simp only [Act.put, List.setIfInBounds_toArray, List.set_cons_zero, List.set_cons_succ])
            refine wpAnyH_ready (rs := [14]) (by kernel_rfl) (by simp) ?_
            refine AllReadyH.cons (o := { dst := some 46, op := Op.call { callee := Callee.builtin Builtin.append, args := #[Operand.tmp 42, Operand.tmp 45], argTypes := #[44, 44] }, type := 44, pos := "l2_counts.go:213", after := #[{ on := 10, ground := Ground.data }, { on := 13, ground := Ground.data }, { on := 10, ground := Ground.chain }], guard := none }) rfl (fun K hK => ?_) AllReadyH.nil
            refine step_append_any _ (by rfl) _ _ 44 (by rfl) wc.heap.size 66 i0 (.agg #[.string ⟨#[]⟩, .slice none 0 0]) 2 40 Tryz.underlying44 hi0 hzz hzs hzb rfl (by decide) (.slice (some ⟨g64, 0, none⟩) (k + 1) c64) (k + 1) (xsA ++ [.string lb, .slice sa sn sc]) (by rfl) OW66.out (by simp) ⟨gq, k * 2, none⟩ (i - k) _ xsC (by rfl) XC1.out (fun j u hu => keep1 HB65.out (XC2.out j u hu)) XC3.out (i + 1) ((xsA ++ [.string lb, .slice sa sn sc]) ++ xsC) (by omega) (by rfl) (by unfold maxLen; omega) (by omega) HB65.out.size ?_
            intro g67 c67 w67 hown67 hgr67
            have HB68 := Lib.hid (HB65.out.grown hgr67 HB65.out.size (fun q e => (OW66.out.lt q e).1))
            have OW69 := Lib.hid hown67
            clear hown67 hgr67
            refine hK.out _ _ ?_ (fun hHeld => ?_)
            · exact ⟨keep1 HB68.out d1, keep1 HB68.out d2⟩
            clear hK K
            (try simp only [Act.put, List.setIfInBounds_toArray, List.set_cons_zero, List.set_cons_succ])
            refine wpAnyH_take (i := 15) (oi := { dst := some 3, op := Op.assign (Operand.tmp 46), type := 44, pos := "l2_counts.go:213", after := #[{ on := 14, ground := Ground.data }, { on := 14, ground := Ground.chain }, { on := 0, ground := Ground.phase }, { on := 1, ground := Ground.phase }, { on := 2, ground := Ground.phase }, { on := 3, ground := Ground.phase }, { on := 4, ground := Ground.phase }, { on := 5, ground := Ground.phase }, { on := 6, ground := Ground.phase }, { on := 7, ground := Ground.phase }, { on := 8, ground := Ground.phase }, { on := 9, ground := Ground.phase }, { on := 10, ground := Ground.phase }, { on := 11, ground := Ground.phase }, { on := 12, ground := Ground.phase }, { on := 13, ground := Ground.phase }, { on := 14, ground := Ground.phase }], guard := none }) (v := ?_) rfl (by kernel_rfl) (by kernel_rfl) (by kernel_rfl) (fun _ _ _ h => h) (Or.inl ⟨by rfl, ?_⟩) (by assumption) ?_
            rotate_left
            · (intro w hSw; (try dsimp only at hSw); go_simp <;> with_reducible rfl)
            (try simp only [Act.put, List.setIfInBounds_toArray, List.set_cons_zero, List.set_cons_succ])
            refine wpAnyH_done (by kernel_rfl) ?_ _
            all_goals
              go_wp2_with fail
              go_roundw
              case rel => exact FIN.out _ _ _ OW69.out HB68.out
              case measure => simp [intOf]; omega
          refine AllReadyH.cons (o := { dst := some 41, op := Op.buildSlice 44 1 #[(0, Operand.tmp 40)], type := 44, pos := "l2_counts.go:213", after := #[{ on := 8, ground := Ground.data }], guard := none }) rfl (fun K hK => ?_) AllReadyH.nil
          go_simp
          go_wp2_with fail
          have HB70 := Lib.hid (HBD.out.alloc HBD.out.size (.cells #[.string lb, .slice sa sn sc] 66 (0, 0)))
          have BX71 : Hid ((wc.drew.alloc (.cells #[.string lb, .slice sa sn sc] 66 (0, 0))).heap[wc.heap.size]? = some (.cells #[.string lb, .slice sa sn sc] 66 (0, 0))) := Lib.hid (by exact heap_alloc_new wc.drew _)
          refine hK.out _ _ ?_ (fun hHeld => ?_)
          · exact ⟨keep1 HB70.out d1, keep1 HB70.out d2⟩
          clear hK K
          (try simp only [Act.put, List.setIfInBounds_toArray, List.set_cons_zero, List.set_cons_succ])
          refine wpAnyH_ready (rs := [0]) (by kernel_rfl) (by simp) ?_
          refine AllReadyH.cons (o := { dst := some 32, op := Op.buildSlice 44 0 #[], type := 44, pos := "l2_counts.go:213", after := #[], guard := none }) rfl (fun K hK => ?_) AllReadyH.nil
          go_simp
          go_wp2_with fail
          have HB72 := Lib.hid (HB70.out.alloc HB70.out.size (.cells #[] 66 (0, 0)))
          have OW73 : Hid (World.ownsRow ((wc.drew.alloc (.cells #[.string lb, .slice sa sn sc] 66 (0, 0))).alloc (.cells #[] 66 (0, 0))) wc.heap.size 66 2 (.slice (some ⟨wc.heap.size + 1, 0, none⟩) 0 0) 0 []) := Lib.hid (by rw [show wc.heap.size + 1 = (wc.drew.alloc (.cells #[.string lb, .slice sa sn sc] 66 (0, 0))).heap.size by simp]; exact World.ownsRow_made (wc.drew.alloc (.cells #[.string lb, .slice sa sn sc] 66 (0, 0))) #[] 0 HB70.out.size (by simp [maxLen]) rfl)
          have BX74 := Lib.hid ((Below.heap_alloc (wc.drew.alloc (.cells #[.string lb, .slice sa sn sc] 66 (0, 0))) (.cells #[] 66 (0, 0)) _ (Array.getElem?_eq_some_iff.1 BX71.out).1).trans BX71.out)
          refine hK.out _ _ ?_ (fun hHeld => ?_)
          · exact ⟨keep1 HB72.out d1, keep1 HB72.out d2⟩
          clear hK K
          (try simp only [Act.put, List.setIfInBounds_toArray, List.set_cons_zero, List.set_cons_succ])
          refine wpAnyH_ready (rs := [4]) (by kernel_rfl) (by simp) ?_
          refine AllReadyH.cons (o := { dst := some 36, op := Op.call { callee := Callee.builtin Builtin.append, args := #[Operand.tmp 32, Operand.tmp 35], argTypes := #[44, 44] }, type := 44, pos := "l2_counts.go:213", after := #[{ on := 0, ground := Ground.data }, { on := 3, ground := Ground.data }], guard := none }) rfl (fun K hK => ?_) AllReadyH.nil
          refine step_append_any _ (by rfl) _ _ 44 (by rfl) wc.heap.size 66 i0 (.agg #[.string ⟨#[]⟩, .slice none 0 0]) 2 40 Tryz.underlying44 hi0 hzz hzs hzb rfl (by decide) (.slice (some ⟨wc.heap.size + 1, 0, none⟩) 0 0) 0 [] (by rfl) OW73.out (by simp) ⟨gq, 0, none⟩ k cq xsA (by rfl) XA1.out (fun j u hu => keep1 HB72.out (XA2.out j u hu)) XA3.out k xsA (by omega) (by rfl) (by unfold maxLen; omega) (by omega) HB72.out.size ?_
          intro g75 c75 w75 hown75 hgr75
          have HB76 := Lib.hid (HB72.out.grown hgr75 HB72.out.size (fun q e => (OW73.out.lt q e).1))
          have OW77 := Lib.hid hown75
          have BX78 := Lib.hid ((hgr75.block _ (Array.getElem?_eq_some_iff.1 BX74.out).1 (fun e => by simp [Value.ownBlock] at e)).trans BX74.out)
          clear hown75 hgr75
          refine hK.out _ _ ?_ (fun hHeld => ?_)
          · exact ⟨keep1 HB76.out d1, keep1 HB76.out d2⟩
          clear hK K
          (try simp only [Act.put, List.setIfInBounds_toArray, List.set_cons_zero, List.set_cons_succ])
          refine wpAnyH_ready (rs := [10]) (by kernel_rfl) (by simp) ?_
          refine AllReadyH.cons (o := { dst := some 42, op := Op.call { callee := Callee.builtin Builtin.append, args := #[Operand.tmp 36, Operand.tmp 41], argTypes := #[44, 44] }, type := 44, pos := "l2_counts.go:213", after := #[{ on := 4, ground := Ground.data }, { on := 9, ground := Ground.data }, { on := 4, ground := Ground.chain }], guard := none }) rfl (fun K hK => ?_) AllReadyH.nil
          refine step_append_any _ (by rfl) _ _ 44 (by rfl) wc.heap.size 66 i0 (.agg #[.string ⟨#[]⟩, .slice none 0 0]) 2 40 Tryz.underlying44 hi0 hzz hzs hzb rfl (by decide) (.slice (some ⟨g75, 0, none⟩) k c75) k xsA (by rfl) OW77.out (by simp) ⟨wc.heap.size, 0, none⟩ 1 1 [.string lb, .slice sa sn sc] (by rfl) (by rfl) (World.news_of_block BX78.out) (by simp [Value.oneCell']) (k + 1) (xsA ++ [.string lb, .slice sa sn sc]) (by rfl) (by rfl) (by unfold maxLen; omega) (by omega) HB76.out.size ?_
          intro g79 c79 w79 hown79 hgr79
          have HB80 := Lib.hid (HB76.out.grown hgr79 HB76.out.size (fun q e => (OW77.out.lt q e).1))
          have OW81 := Lib.hid hown79
          clear hown79 hgr79
          refine hK.out _ _ ?_ (fun hHeld => ?_)
          · exact ⟨keep1 HB80.out d1, keep1 HB80.out d2⟩
          clear hK K
          (try simp only [Act.put, List.setIfInBounds_toArray, List.set_cons_zero, List.set_cons_succ])
          refine wpAnyH_ready (rs := [14]) (by kernel_rfl) (by simp) ?_
          refine AllReadyH.cons (o := { dst := some 46, op := Op.call { callee := Callee.builtin Builtin.append, args := #[Operand.tmp 42, Operand.tmp 45], argTypes := #[44, 44] }, type := 44, pos := "l2_counts.go:213", after := #[{ on := 10, ground := Ground.data }, { on := 13, ground := Ground.data }, { on := 10, ground := Ground.chain }], guard := none }) rfl (fun K hK => ?_) AllReadyH.nil
          refine step_append_any _ (by rfl) _ _ 44 (by rfl) wc.heap.size 66 i0 (.agg #[.string ⟨#[]⟩, .slice none 0 0]) 2 40 Tryz.underlying44 hi0 hzz hzs hzb rfl (by decide) (.slice (some ⟨g79, 0, none⟩) (k + 1) c79) (k + 1) (xsA ++ [.string lb, .slice sa sn sc]) (by rfl) OW81.out (by simp) ⟨gq, k * 2, none⟩ (i - k) _ xsC (by rfl) XC1.out (fun j u hu => keep1 HB80.out (XC2.out j u hu)) XC3.out (i + 1) ((xsA ++ [.string lb, .slice sa sn sc]) ++ xsC) (by omega) (by rfl) (by unfold maxLen; omega) (by omega) HB80.out.size ?_
          intro g82 c82 w82 hown82 hgr82
          have HB83 := Lib.hid (HB80.out.grown hgr82 HB80.out.size (fun q e => (OW81.out.lt q e).1))
          have OW84 := Lib.hid hown82
          clear hown82 hgr82
          refine hK.out _ _ ?_ (fun hHeld => ?_)
          · exact ⟨keep1 HB83.out d1, keep1 HB83.out d2⟩
          clear hK K
          (try simp only [Act.put, List.setIfInBounds_toArray, List.set_cons_zero, List.set_cons_succ])
          refine wpAnyH_take (i := 15) (oi := { dst := some 3, op := Op.assign (Operand.tmp 46), type := 44, pos := "l2_counts.go:213", after := #[{ on := 14, ground := Ground.data }, { on := 14, ground := Ground.chain }, { on := 0, ground := Ground.phase }, { on := 1, ground := Ground.phase }, { on := 2, ground := Ground.phase }, { on := 3, ground := Ground.phase }, { on := 4, ground := Ground.phase }, { on := 5, ground := Ground.phase }, { on := 6, ground := Ground.phase }, { on := 7, ground := Ground.phase }, { on := 8, ground := Ground.phase }, { on := 9, ground := Ground.phase }, { on := 10, ground := Ground.phase }, { on := 11, ground := Ground.phase }, { on := 12, ground := Ground.phase }, { on := 13, ground := Ground.phase }, { on := 14, ground := Ground.phase }], guard := none }) (v := ?_) rfl (by kernel_rfl) (by kernel_rfl) (by kernel_rfl) (fun _ _ _ h => h) (Or.inl ⟨by rfl, ?_⟩) (by assumption) ?_
          rotate_left
          · (intro w hSw; (try dsimp only at hSw); go_simp <;> with_reducible rfl)
          (try simp only [Act.put, List.setIfInBounds_toArray, List.set_cons_zero, List.set_cons_succ])
          refine wpAnyH_done (by kernel_rfl) ?_ _
          all_goals
            go_wp2_with fail
            go_roundw
            case rel => exact FIN.out _ _ _ OW84.out HB83.out
            case measure => simp [intOf]; omega
    · have hin : i = n := by omega
      have HD : Hid (us.Perm ts) := Lib.hid (by
        have := HPERM.out
        rw [hin, HNT.out, List.take_length] at this
        exact this)
      go_wp2_with fail
      go_ret
      refine ⟨us, HASC.out, HD.out, HB.out, gq, cq, by rw [HUL.out]; rfl, by rw [HUL.out]; exact hc1, hc2, HRU.out⟩
end Go.Proofs.YtoeebipahifpcaaGreat
end
section
/- The model's quadratic trees. -/
namespace Go.Proofs.YtoeebipahifpcaaGreat
open Go.RowKit

def TxG (w : World) (g : Nat) (ss : List ByteArray) : Prop := ∀ j (h : j < ss.length), w.cell? ⟨g, j, none⟩ = some (.string ss[j])
theorem TxG.below {w w' : World} {g : Nat} {ss : List ByteArray} (h : TxG w g ss) (hb : Below w.heap.size w w') : TxG w' g ss := fun j hj => keep1 hb (h j hj)
theorem TxG.of_lies {w : World} {g : Nat} {ss : List ByteArray} (h : Lies w (some ⟨g, 0, none⟩) (txl ss)) : TxG w g ss := fun j hj => by
  obtain ⟨g', e, hc⟩ := h j (by rw [txl_length]; exact hj)
  cases e
  rw [hc]
  simp only [txl, List.getElem_map, Array.toArray_toList]

/-! Which letters, step by step. -/
theorem lettersOf_bad {ss : List ByteArray} {k : Nat} (h : letAll (ss.take k) = none) : lettersOf ss = none := by
  unfold lettersOf; split
  · exact letAll_none h
  · rfl
theorem let_bad {ss : List ByteArray} {i : Nat} (hi : i < ss.length) (h : letOne (ss[i]).data.toList = none) : lettersOf ss = none :=
  lettersOf_bad (k := i + 1) (by rw [letAll_take hi, letStep_no _ h])
theorem let_dup {ss : List ByteArray} {i k : Nat} (hi : i < ss.length) (hk : k < i) (h : ss[k]'(by omega) = ss[i]) : lettersOf ss = none := by
  apply lettersOf_bad (k := i + 1)
  rw [letAll_take hi]
  cases ha : letAll (ss.take i) with
  | none => unfold letStep; rfl
  | some ds =>
    cases ho : letOne (ss[i]).data.toList with
    | none => exact letStep_no _ ho
    | some c =>
      apply letStep_twice ho
      have h1 := letAll_ok _ _ _ rfl ha
      have h2 : (ss.take i)[k]'(by rw [List.length_take]; omega) = ss[i] := by rw [List.getElem_take]; exact h
      have h3 := h1.txt
      have hlen : ds.length = i := by
        have := congrArg List.length h3
        rw [List.length_take, List.length_map] at this; omega
      have h4 : (ss.take i)[k]'(by rw [List.length_take]; omega) = ⟨#[ds[k]'(by omega)]⟩ := by
        rw [List.getElem_of_eq h3]; simp
      have h5 : ss[i] = ⟨#[ds[k]'(by omega)]⟩ := by rw [← h2, h4]
      have h6 := (letOne_some ho).1
      rw [h5] at h6
      simp only [List.cons.injEq, and_true] at h6
      rw [← h6]
      exact List.getElem_mem _
theorem let_next {ss : List ByteArray} {i : Nat} {c : UInt8} (hi : i < ss.length) (ha : (letAll (ss.take i)).isSome = true) (ho : letOne (ss[i]).data.toList = some c) (hn : ∀ k (h : k < i), ss[k]'(by omega) ≠ ss[i]) : (letAll (ss.take (i + 1))).isSome = true := by
  cases h : letAll (ss.take i) with
  | none => rw [h] at ha; cases ha
  | some ds =>
    rw [letAll_take hi, h, letStep_yes ho]
    · rfl
    · intro hc
      have h1 := letAll_ok _ _ _ rfl h
      obtain ⟨k, hk, e⟩ := List.getElem_of_mem hc
      have h3 := h1.txt
      have hlen : ds.length = i := by
        have := congrArg List.length h3
        rw [List.length_take, List.length_map] at this; omega
      apply hn k (by omega)
      have h4 : (ss.take i)[k]'(by rw [List.length_take]; omega) = ⟨#[ds[k]]⟩ := by
        rw [List.getElem_of_eq h3]; simp
      rw [List.getElem_take] at h4
      rw [h4, e, letOne_bytes ho]
theorem let_one_yes {c : UInt8} (h : 97 ≤ (c.toNat : Int) ∧ (c.toNat : Int) ≤ 104) : letOne (⟨#[c]⟩ : ByteArray).data.toList = some c := by
  simp only [letOne, if_pos h]
theorem let_one_no {c : UInt8} (h : ¬ (97 ≤ (c.toNat : Int) ∧ (c.toNat : Int) ≤ 104)) : letOne (⟨#[c]⟩ : ByteArray).data.toList = none := by
  simp only [letOne, if_neg h]
theorem let_one_size {s : ByteArray} (h : s.size ≠ 1) : letOne s.data.toList = none := by
  cases ho : letOne s.data.toList with
  | none => rfl
  | some c => exact absurd (by rw [letOne_bytes ho]; rfl) h
theorem letters_at {ss : List ByteArray} {cs : List UInt8} (h : lettersOf ss = some cs) {k : Nat} (hk : k < ss.length) : k < cs.length ∧ ss[k] = ⟨#[cs.getD k 0]⟩ ∧ 97 ≤ (cs.getD k 0).toNat ∧ (cs.getD k 0).toNat ≤ 104 := by
  obtain ⟨h1, _, _⟩ := lettersOf_ok h
  have hlen : ss.length = cs.length := by
    have := congrArg List.length h1.txt
    rw [List.length_map] at this; exact this
  have hk2 : k < cs.length := by omega
  have e : cs.getD k 0 = cs[k] := by rw [List.getD_eq_getElem?_getD, List.getElem?_eq_getElem hk2]; rfl
  refine ⟨hk2, ?_, by rw [e]; exact (h1.let_ _ (List.getElem_mem hk2)).1, by rw [e]; exact (h1.let_ _ (List.getElem_mem hk2)).2⟩
  rw [List.getElem_of_eq h1.txt, e]; simp

/-! How a quadratic tree lies. -/
theorem quadL_rep {W : World} {P : Nat → Prop} {B0 B1 : Nat} {x y : UInt8} (hx : 97 ≤ x.toNat ∧ x.toNat ≤ 104) (hy : 97 ≤ y.toNat ∧ y.toNat ≤ 104)
    (h0 : W.heap[B0]? = some (.cells #[.string ⟨#[]⟩, .slice none 0 0, .string ⟨#[]⟩, .slice none 0 0] 66 (0, 0)))
    (h1 : W.heap[B1]? = some (.cells #[.string ⟨#[y]⟩, .slice (some ⟨B0, 0, none⟩) 2 2, .string ⟨#[]⟩, .slice none 0 0] 66 (0, 0))) (p0 : P B0) (p1 : P B1) :
    trS.R W P (quadL x y) [.string ⟨#[x]⟩, .slice (some ⟨B1, 0, none⟩) 2 2] := by
  refine ⟨⟨#[x]⟩, some ⟨B1, 0, none⟩, 2, 2, rfl, ?_, ?_⟩
  · simp only [quadL, T.wf, T.wfL, List.length_cons, List.length_nil]
    exact ⟨hx.1, hx.2, by omega, by omega, ⟨hy.1, hy.2, by omega, by omega, trivial, trivial, trivial⟩, trivial, trivial⟩
  · simp only [quadL, RepS, RepSL]
    exact ⟨trivial, B1, 2, rfl, p1, by simp, ⟨.string ⟨#[y]⟩, .slice (some ⟨B0, 0, none⟩) 2 2, by rw [Lib.cell_of_heap h1]; rfl, by rw [Lib.cell_of_heap h1]; rfl, rfl, B0, 2, rfl, p0, by simp, ⟨_, _, by rw [Lib.cell_of_heap h0]; rfl, by rw [Lib.cell_of_heap h0]; rfl, rfl, rfl⟩, ⟨_, _, by rw [Lib.cell_of_heap h0]; rfl, by rw [Lib.cell_of_heap h0]; rfl, rfl, rfl⟩, trivial⟩, ⟨_, _, by rw [Lib.cell_of_heap h1]; rfl, by rw [Lib.cell_of_heap h1]; rfl, rfl, rfl⟩, trivial⟩
theorem quadR_rep {W : World} {P : Nat → Prop} {B0 B1 : Nat} {x y : UInt8} (hx : 97 ≤ x.toNat ∧ x.toNat ≤ 104) (hy : 97 ≤ y.toNat ∧ y.toNat ≤ 104)
    (h0 : W.heap[B0]? = some (.cells #[.string ⟨#[]⟩, .slice none 0 0, .string ⟨#[]⟩, .slice none 0 0] 66 (0, 0)))
    (h1 : W.heap[B1]? = some (.cells #[.string ⟨#[]⟩, .slice none 0 0, .string ⟨#[y]⟩, .slice (some ⟨B0, 0, none⟩) 2 2] 66 (0, 0))) (p0 : P B0) (p1 : P B1) :
    trS.R W P (quadR x y) [.string ⟨#[x]⟩, .slice (some ⟨B1, 0, none⟩) 2 2] := by
  refine ⟨⟨#[x]⟩, some ⟨B1, 0, none⟩, 2, 2, rfl, ?_, ?_⟩
  · simp only [quadR, T.wf, T.wfL, List.length_cons, List.length_nil]
    exact ⟨hx.1, hx.2, by omega, by omega, trivial, ⟨hy.1, hy.2, by omega, by omega, trivial, trivial, trivial⟩, trivial⟩
  · simp only [quadR, RepS, RepSL]
    exact ⟨trivial, B1, 2, rfl, p1, by simp, ⟨_, _, by rw [Lib.cell_of_heap h1]; rfl, by rw [Lib.cell_of_heap h1]; rfl, rfl, rfl⟩, ⟨.string ⟨#[y]⟩, .slice (some ⟨B0, 0, none⟩) 2 2, by rw [Lib.cell_of_heap h1]; rfl, by rw [Lib.cell_of_heap h1]; rfl, rfl, B0, 2, rfl, p0, by simp, ⟨_, _, by rw [Lib.cell_of_heap h0]; rfl, by rw [Lib.cell_of_heap h0]; rfl, rfl, rfl⟩, ⟨_, _, by rw [Lib.cell_of_heap h0]; rfl, by rw [Lib.cell_of_heap h0]; rfl, rfl, rfl⟩, trivial⟩, trivial⟩

/-- The row of trees that grows: what it is, if the letters are as told. -/
def QAll (ss : List ByteArray) (w : World) (ts : List UInt8 → List T) (m : Nat) (av : Value) (wr : World) : Prop :=
  ∃ va vc vs, av = .slice va m vc ∧ va ≠ none ∧ wr.ownsRow w.heap.size 66 2 av m vs ∧ (∀ cs, lettersOf ss = some cs → (ts cs).length = m ∧ Row trS 66 w.heap.size (ts cs) av vs wr) ∧ Below w.heap.size w wr

theorem QAll.below {ss : List ByteArray} {w wr w2 : World} {ts : List UInt8 → List T} {m : Nat} {av : Value} (h : QAll ss w ts m av wr) (hb : Below wr.heap.size wr w2) : QAll ss w ts m av w2 := by
  obtain ⟨va, vc, vs, e, hva, hown, hrow, hB⟩ := h
  exact ⟨va, vc, vs, e, hva, owns_below hown hb, fun cs hcs => ⟨(hrow cs hcs).1, (hrow cs hcs).2.below hb⟩, below_step hB hb⟩
theorem QAll.congr {ss : List ByteArray} {w wr : World} {ts ts' : List UInt8 → List T} {m : Nat} {av : Value} (h : QAll ss w ts m av wr) (he : ∀ cs, lettersOf ss = some cs → ts cs = ts' cs) : QAll ss w ts' m av wr := by
  obtain ⟨va, vc, vs, e, hva, hown, hrow, hB⟩ := h
  exact ⟨va, vc, vs, e, hva, hown, fun cs hcs => by rw [← he cs hcs]; exact hrow cs hcs, hB⟩

theorem QAll.step {ss : List ByteArray} {w wr w6 : World} {ts ts' : List UInt8 → List T} {m vc g q : Nat} {va : Option Addr} {vs : List Value} {x y : ByteArray}
    (hown : wr.ownsRow w.heap.size 66 2 (.slice va m vc) m vs) (hrow : ∀ cs, lettersOf ss = some cs → (ts cs).length = m ∧ Row trS 66 w.heap.size (ts cs) (.slice va m vc) vs wr) (hB : Below w.heap.size w wr)
    (hts : ∀ cs, lettersOf ss = some cs → ∃ cx cy : UInt8, x = ⟨#[cx]⟩ ∧ y = ⟨#[cy]⟩ ∧ (97 ≤ cx.toNat ∧ cx.toNat ≤ 104) ∧ (97 ≤ cy.toNat ∧ cy.toNat ≤ 104) ∧ ts' cs = ts cs ++ [quadL cx cy, quadR cx cy])
    (hown6 : w6.ownsRow w.heap.size 66 2 (.slice (some ⟨g, 0, none⟩) (m + 2) q) (m + 2) (vs ++ [.string x, .slice (some ⟨wr.heap.size + 1 + 1, 0, none⟩) 2 2, .string x, .slice (some ⟨wr.heap.size + 1 + 1 + 1, 0, none⟩) 2 2])) (hg6 : ((((((wr.alloc (.cells #[.string ⟨#[]⟩, .slice none 0 0, .string ⟨#[]⟩, .slice none 0 0] 66 (0, 0))).alloc (.cells #[.string y, .slice (some ⟨wr.heap.size, 0, none⟩) 2 2] 66 (0, 0))).alloc (.cells #[.string y, .slice (some ⟨wr.heap.size, 0, none⟩) 2 2, .string ⟨#[]⟩, .slice none 0 0] 66 (0, 0))).alloc (.cells #[.string ⟨#[]⟩, .slice none 0 0, .string y, .slice (some ⟨wr.heap.size, 0, none⟩) 2 2] 66 (0, 0))).alloc (.cells #[.string x, .slice (some ⟨wr.heap.size + 1 + 1, 0, none⟩) 2 2, .string x, .slice (some ⟨wr.heap.size + 1 + 1 + 1, 0, none⟩) 2 2] 66 (0, 0)))).grownBy w6 (Value.slice va m vc).ownBlock)
    (hat : (Value.slice va m vc).ownBlock = some g ∨ wr.heap.size + 5 ≤ g) : QAll ss w ts' (m + 2) (.slice (some ⟨g, 0, none⟩) (m + 2) q) w6 := by
  have hbq : Below wr.heap.size wr (((((wr.alloc (.cells #[.string ⟨#[]⟩, .slice none 0 0, .string ⟨#[]⟩, .slice none 0 0] 66 (0, 0))).alloc (.cells #[.string y, .slice (some ⟨wr.heap.size, 0, none⟩) 2 2] 66 (0, 0))).alloc (.cells #[.string y, .slice (some ⟨wr.heap.size, 0, none⟩) 2 2, .string ⟨#[]⟩, .slice none 0 0] 66 (0, 0))).alloc (.cells #[.string ⟨#[]⟩, .slice none 0 0, .string y, .slice (some ⟨wr.heap.size, 0, none⟩) 2 2] 66 (0, 0))).alloc (.cells #[.string x, .slice (some ⟨wr.heap.size + 1 + 1, 0, none⟩) 2 2, .string x, .slice (some ⟨wr.heap.size + 1 + 1 + 1, 0, none⟩) 2 2] 66 (0, 0))) := (((((Below.refl _ _).alloc (Nat.le_refl _) _).alloc (by simp) _).alloc (by simp; omega) _).alloc (by simp; omega) _).alloc (by simp; omega) _
  have hlt : ∀ q, (Value.slice va m vc).ownBlock = some q → w.heap.size ≤ q ∧ q < wr.heap.size := fun q e => hown.lt q e
  refine ⟨_, _, _, rfl, by simp, hown6, fun cs hcs => ?_, ?_⟩
  · obtain ⟨cx, cy, rfl, rfl, hx, hy, e⟩ := hts cs hcs
    obtain ⟨hl, hr⟩ := hrow cs hcs
    refine ⟨by rw [e, List.length_append, hl]; rfl, ?_⟩
    rw [e]
    have b0 : ((((((wr.alloc (.cells #[.string ⟨#[]⟩, .slice none 0 0, .string ⟨#[]⟩, .slice none 0 0] 66 (0, 0))).alloc (.cells #[.string ⟨#[cy]⟩, .slice (some ⟨wr.heap.size, 0, none⟩) 2 2] 66 (0, 0))).alloc (.cells #[.string ⟨#[cy]⟩, .slice (some ⟨wr.heap.size, 0, none⟩) 2 2, .string ⟨#[]⟩, .slice none 0 0] 66 (0, 0))).alloc (.cells #[.string ⟨#[]⟩, .slice none 0 0, .string ⟨#[cy]⟩, .slice (some ⟨wr.heap.size, 0, none⟩) 2 2] 66 (0, 0))).alloc (.cells #[.string ⟨#[cx]⟩, .slice (some ⟨wr.heap.size + 1 + 1, 0, none⟩) 2 2, .string ⟨#[cx]⟩, .slice (some ⟨wr.heap.size + 1 + 1 + 1, 0, none⟩) 2 2] 66 (0, 0)))).heap[wr.heap.size]? = some (.cells #[.string ⟨#[]⟩, .slice none 0 0, .string ⟨#[]⟩, .slice none 0 0] 66 (0, 0)) := by
      rw [Below.heap_alloc _ _ _ (by simp; omega), Below.heap_alloc _ _ _ (by simp; omega), Below.heap_alloc _ _ _ (by simp; omega), Below.heap_alloc _ _ _ (by simp)]
      exact heap_alloc_new wr _
    have b2 : ((((((wr.alloc (.cells #[.string ⟨#[]⟩, .slice none 0 0, .string ⟨#[]⟩, .slice none 0 0] 66 (0, 0))).alloc (.cells #[.string ⟨#[cy]⟩, .slice (some ⟨wr.heap.size, 0, none⟩) 2 2] 66 (0, 0))).alloc (.cells #[.string ⟨#[cy]⟩, .slice (some ⟨wr.heap.size, 0, none⟩) 2 2, .string ⟨#[]⟩, .slice none 0 0] 66 (0, 0))).alloc (.cells #[.string ⟨#[]⟩, .slice none 0 0, .string ⟨#[cy]⟩, .slice (some ⟨wr.heap.size, 0, none⟩) 2 2] 66 (0, 0))).alloc (.cells #[.string ⟨#[cx]⟩, .slice (some ⟨wr.heap.size + 1 + 1, 0, none⟩) 2 2, .string ⟨#[cx]⟩, .slice (some ⟨wr.heap.size + 1 + 1 + 1, 0, none⟩) 2 2] 66 (0, 0)))).heap[wr.heap.size + 1 + 1]? = some (.cells #[.string ⟨#[cy]⟩, .slice (some ⟨wr.heap.size, 0, none⟩) 2 2, .string ⟨#[]⟩, .slice none 0 0] 66 (0, 0)) := by
      rw [Below.heap_alloc _ _ _ (by simp), Below.heap_alloc _ _ _ (by simp), show wr.heap.size + 1 + 1 = ((wr.alloc (.cells #[.string ⟨#[]⟩, .slice none 0 0, .string ⟨#[]⟩, .slice none 0 0] 66 (0, 0))).alloc (.cells #[.string ⟨#[cy]⟩, .slice (some ⟨wr.heap.size, 0, none⟩) 2 2] 66 (0, 0))).heap.size by simp]
      exact heap_alloc_new _ _
    have b3 : ((((((wr.alloc (.cells #[.string ⟨#[]⟩, .slice none 0 0, .string ⟨#[]⟩, .slice none 0 0] 66 (0, 0))).alloc (.cells #[.string ⟨#[cy]⟩, .slice (some ⟨wr.heap.size, 0, none⟩) 2 2] 66 (0, 0))).alloc (.cells #[.string ⟨#[cy]⟩, .slice (some ⟨wr.heap.size, 0, none⟩) 2 2, .string ⟨#[]⟩, .slice none 0 0] 66 (0, 0))).alloc (.cells #[.string ⟨#[]⟩, .slice none 0 0, .string ⟨#[cy]⟩, .slice (some ⟨wr.heap.size, 0, none⟩) 2 2] 66 (0, 0))).alloc (.cells #[.string ⟨#[cx]⟩, .slice (some ⟨wr.heap.size + 1 + 1, 0, none⟩) 2 2, .string ⟨#[cx]⟩, .slice (some ⟨wr.heap.size + 1 + 1 + 1, 0, none⟩) 2 2] 66 (0, 0)))).heap[wr.heap.size + 1 + 1 + 1]? = some (.cells #[.string ⟨#[]⟩, .slice none 0 0, .string ⟨#[cy]⟩, .slice (some ⟨wr.heap.size, 0, none⟩) 2 2] 66 (0, 0)) := by
      rw [Below.heap_alloc _ _ _ (by simp), show wr.heap.size + 1 + 1 + 1 = (((wr.alloc (.cells #[.string ⟨#[]⟩, .slice none 0 0, .string ⟨#[]⟩, .slice none 0 0] 66 (0, 0))).alloc (.cells #[.string ⟨#[cy]⟩, .slice (some ⟨wr.heap.size, 0, none⟩) 2 2] 66 (0, 0))).alloc (.cells #[.string ⟨#[cy]⟩, .slice (some ⟨wr.heap.size, 0, none⟩) 2 2, .string ⟨#[]⟩, .slice none 0 0] 66 (0, 0))).heap.size by simp]
      exact heap_alloc_new _ _
    have hne : ∀ b, wr.heap.size ≤ b → (Value.slice va m vc).ownBlock ≠ some b := fun b hb e => by have := (hlt b e).2; omega
    have hrr := hr.many (bs := [quadL cx cy, quadR cx cy]) (news := [.string ⟨#[cx]⟩, .slice (some ⟨wr.heap.size + 1 + 1, 0, none⟩) 2 2, .string ⟨#[cx]⟩, .slice (some ⟨wr.heap.size + 1 + 1 + 1, 0, none⟩) 2 2]) (w1 := (((((wr.alloc (.cells #[.string ⟨#[]⟩, .slice none 0 0, .string ⟨#[]⟩, .slice none 0 0] 66 (0, 0))).alloc (.cells #[.string ⟨#[cy]⟩, .slice (some ⟨wr.heap.size, 0, none⟩) 2 2] 66 (0, 0))).alloc (.cells #[.string ⟨#[cy]⟩, .slice (some ⟨wr.heap.size, 0, none⟩) 2 2, .string ⟨#[]⟩, .slice none 0 0] 66 (0, 0))).alloc (.cells #[.string ⟨#[]⟩, .slice none 0 0, .string ⟨#[cy]⟩, .slice (some ⟨wr.heap.size, 0, none⟩) 2 2] 66 (0, 0))).alloc (.cells #[.string ⟨#[cx]⟩, .slice (some ⟨wr.heap.size + 1 + 1, 0, none⟩) 2 2, .string ⟨#[cx]⟩, .slice (some ⟨wr.heap.size + 1 + 1 + 1, 0, none⟩) 2 2] 66 (0, 0)))) (w1' := (((((wr.alloc (.cells #[.string ⟨#[]⟩, .slice none 0 0, .string ⟨#[]⟩, .slice none 0 0] 66 (0, 0))).alloc (.cells #[.string ⟨#[cy]⟩, .slice (some ⟨wr.heap.size, 0, none⟩) 2 2] 66 (0, 0))).alloc (.cells #[.string ⟨#[cy]⟩, .slice (some ⟨wr.heap.size, 0, none⟩) 2 2, .string ⟨#[]⟩, .slice none 0 0] 66 (0, 0))).alloc (.cells #[.string ⟨#[]⟩, .slice none 0 0, .string ⟨#[cy]⟩, .slice (some ⟨wr.heap.size, 0, none⟩) 2 2] 66 (0, 0))).alloc (.cells #[.string ⟨#[cx]⟩, .slice (some ⟨wr.heap.size + 1 + 1, 0, none⟩) 2 2, .string ⟨#[cx]⟩, .slice (some ⟨wr.heap.size + 1 + 1 + 1, 0, none⟩) 2 2] 66 (0, 0)))) (v' := .slice (some ⟨g, 0, none⟩) (m + 2) q) (w2 := w6) hbq (fun k hk => by
      simp only [List.length_cons, List.length_nil] at hk
      rcases (show k = 0 ∨ k = 1 by omega) with rfl | rfl
      · exact ⟨_, fun j hj => by
          rcases (show j = 0 ∨ j = 1 by simp only [trS] at hj; omega) with rfl | rfl <;> rfl, quadL_rep hx hy b0 b2 (hne _ (Nat.le_refl _)) (hne _ (by omega))⟩
      · exact ⟨_, fun j hj => by
          rcases (show j = 0 ∨ j = 1 by simp only [trS] at hj; omega) with rfl | rfl <;> rfl, quadR_rep hx hy b0 b3 (hne _ (Nat.le_refl _)) (hne _ (by omega))⟩) (Below.refl _ _) (by rw [hl]; exact hown6) hg6 (fun b e => by
      simp only [Value.ownBlock, Option.some.injEq] at e
      subst e
      rcases hat with h | h
      · exact .inl h
      · exact .inr (by simp; omega))
    exact hrr
  · exact (below_step hB hbq).grown hg6 (by have := hB.size; simp; omega) (fun q e => (hlt q e).1)

end Go.Proofs.YtoeebipahifpcaaGreat
end
section
/- QuadTrees by the model. -/
namespace Go.Proofs.YtoeebipahifpcaaGreat
open Go.RowKit

/-- A text in a row. -/
def txQ : Elt (List UInt8) where
  size := 1
  R _ _ t cs := cs = [.string ⟨t.toArray⟩]
  len := by rintro w P t cs rfl; rfl
  one := by
    rintro w P t cs rfl u hu
    simp at hu
    subst hu
    rfl
  keep := by rintro w w' P P' t cs _ _ rfl; rfl
theorem txQ.lies {w : World} {P : Nat → Prop} {a : Option Addr} {ts : List (List UInt8)} (h : Rd txQ w P a ts) : Lies w a ts := fun j hj => by
  obtain ⟨g, cs, e, _, hc, rfl⟩ := h j hj
  exact ⟨g, e, by have := hc 0 (by decide); simpa [txQ] using this⟩

/-- Texts are handed back, in a row that is new. -/
def NewTxs (ps : List (List UInt8)) (w : World) (e : Ending) (w' : World) : Prop :=
  Below w.heap.size w w' ∧ ∃ g cap, e = .returned (.slice (some ⟨g, 0, none⟩) ps.length cap) ∧ Lies w' (some ⟨g, 0, none⟩) ps

/-- What 'l6qTrees' answers. -/
def L6T (ss : List ByteArray) (w : World) (e : Ending) (w' : World) : Prop :=
  Below w.heap.size w w' ∧ ((quadsOf ss = none ∧ ∃ g c, e = .returned (.tuple #[.slice (some ⟨g, 0, none⟩) 0 c, .bool false])) ∨
    ∃ ts g c, quadsOf ss = some ts ∧ e = .returned (.tuple #[.slice (some ⟨g, 0, none⟩) ts.length c, .bool true]) ∧ ts.length ≤ c ∧ c ≤ 9223372036854775807 ∧ Rd trS w' (fun _ => True) (some ⟨g, 0, none⟩) ts)

theorem quads_no {ss : List ByteArray} (h : lettersOf ss = none) : quadsOf ss = none := by rw [quadsOf, h]; rfl

set_option maxRecDepth 100000 in
set_option maxHeartbeats 4000000 in
theorem l6qTrees_any (ss : List ByteArray) (n : Nat) (hns : n = ss.length) (ga cap : Nat) (w : World) (hn : n ≤ 1048576) (hz : ∀ j (h : j < ss.length), (ss[j]).size ≤ 1048576) (hl : TxG w ga ss) :
    Calls Tryz.prog 45 #[.slice (some ⟨ga, 0, none⟩) n cap] w (L6T ss w) := by
  have HL := Lib.hid hl
  have HZ := Lib.hid hz
  have HNN := Lib.hid hns
  clear hl hz hns
  obtain ⟨i0, hi0, hzz, hzs, hzb⟩ := info_parts info42
  by_cases hin : 1 ≤ (n : Int) ∧ (n : Int) ≤ 3
  · have HBN := Lib.hid (decide_eq_true hin)
    have hn3 : n ≤ 3 := by omega
    go_enter Tryz.func45, Tryz.ntmps45
    go_wp2_with (go_at_call 60; refine (l6In_any _ _ _ _).mono ?_; rintro e w' ⟨rfl, rfl⟩; rw [HBN.out])
    go_loopw [4, 5] (fun av iv wr => ∃ (i m : Nat), i ≤ n ∧ m ≤ 6 * i ∧ iv = .int .i64 i ∧ (letAll (ss.take i)).isSome = true ∧ QAll ss w (fun cs => (cs.take i).flatMap (quadRow cs)) m av wr) (fun _ iv _ => n - (intOf iv).toNat)
    case atStart =>
      refine ⟨0, 0, Nat.zero_le _, Nat.le_refl _, rfl, rfl, some ⟨w.heap.size, 0, none⟩, 0, [], rfl, by simp, World.ownsRow_made w #[] 0 (Nat.le_refl _) (by simp [maxLen]) rfl, fun cs _ => ⟨by simp, ?_⟩, (Below.refl _ _).alloc (Nat.le_refl _) _⟩
      simp only [List.take_zero, List.flatMap_nil]
      exact ⟨World.ownsRow_made w #[] 0 (Nat.le_refl _) (by simp [maxLen]) rfl, fun _ h => by simp at h⟩
    case round =>
      obtain ⟨i, m, hi, hm, rfl, hlet, hq⟩ := hrel
      obtain ⟨wo, rfl⟩ : ∃ wo : World, wo = wr := ⟨_, rfl⟩
      have HLET := Lib.hid hlet
      have HQ := Lib.hid hq
      obtain ⟨va, vc, vs, rfl, hva, hown, hrow, hB⟩ := hq
      have HB := Lib.hid hB
      have HVA := Lib.hid hva
      have HROW := Lib.hid hrow
      have HOWN := Lib.hid hown
      clear hlet hva hown hrow hB
      by_cases hlt : i < n
      · have hlts : i < ss.length := by rw [← HNN.out]; exact hlt
        have d0 := (HL.out.below HB.out) i hlts
        obtain ⟨x, hx⟩ : ∃ x, x = ss[i] := ⟨_, rfl⟩
        have hsz : x.size ≤ 1048576 := by rw [hx]; exact HZ.out i hlts
        rw [← hx] at d0
        have HX := Lib.hid hx
        clear hx
        by_cases h1 : x.size = 1
        · obtain ⟨c, hc⟩ := one_of h1
          have h0 : x[0]'(by rw [h1]; omega) = c := by subst hc; rfl
          have HC := Lib.hid hc
          clear hc
          by_cases ha : (c.toNat : Int) < 97
          · have HF : Hid (quadsOf ss = none) := Lib.hid (quads_no (let_bad hlts (by rw [← HX.out, HC.out]; exact let_one_no (by omega))))
            have ht : decide ((c.toNat : Int) < 97) = true := decide_eq_true ha
            clear ha
            go_wp2_with fail
            go_ret2
            exact ⟨HB.out.alloc HB.out.size _, .inl ⟨HF.out, _, _, rfl⟩⟩
          · have ht : decide ((c.toNat : Int) < 97) = false := decide_eq_false ha
            by_cases hb : 104 < (c.toNat : Int)
            · have HF : Hid (quadsOf ss = none) := Lib.hid (quads_no (let_bad hlts (by rw [← HX.out, HC.out]; exact let_one_no (by omega))))
              have ht2 : decide (104 < (c.toNat : Int)) = true := decide_eq_true hb
              clear ha hb
              go_wp2_with fail
              go_ret2
              exact ⟨HB.out.alloc HB.out.size _, .inl ⟨HF.out, _, _, rfl⟩⟩
            · have ht2 : decide (104 < (c.toNat : Int)) = false := decide_eq_false hb
              have HONE : Hid (letOne (ss[i]).data.toList = some c) := Lib.hid (by rw [← HX.out, HC.out]; exact let_one_yes (by omega))
              clear ha hb
              go_wp2_with fail
              go_loopw [4, 7] (fun av kv wr => ∃ (k m2 : Nat), k ≤ n ∧ m2 ≤ 6 * i + 2 * k ∧ kv = .int .i64 k ∧ (∀ j (hj : j < k) (hi : j < i), ss[j]'(by omega) ≠ ss[i]) ∧ QAll ss w (fun cs => (cs.take i).flatMap (quadRow cs) ++ (cs.take k).flatMap (quadTwo (cs.getD i 0))) m2 av wr) (fun _ kv _ => n - (intOf kv).toNat)
              case atStart => exact ⟨0, m, Nat.zero_le _, by omega, rfl, fun j hj => by omega, HQ.out.congr (fun cs _ => by simp)⟩
              case round =>
                obtain ⟨k, m2, hk, hm2, rfl, hne, hq⟩ := hrel
                have HNE := Lib.hid hne
                have HQ2 := Lib.hid hq
                obtain ⟨va, vc, vs, rfl, hva, hown, hrow, hBk⟩ := hq
                have HBK := Lib.hid hBk
                have HVA := Lib.hid hva
                have HOWN := Lib.hid hown
                have HROW := Lib.hid hrow
                have hszr : w.heap.size ≤ wr.heap.size := hBk.size
                clear hne hva hown hrow
                by_cases hlk : k < n
                · have hlks : k < ss.length := by rw [← HNN.out]; exact hlk
                  have e0 := (HL.out.below hBk) k hlks
                  obtain ⟨y, hy⟩ : ∃ y, y = ss[k] := ⟨_, rfl⟩
                  rw [← hy] at e0
                  have HY := Lib.hid hy
                  clear hy hBk
                  have OWN5 := World.ownsRow.alloc (World.ownsRow.alloc (World.ownsRow.alloc (World.ownsRow.alloc (World.ownsRow.alloc HOWN.out (.cells #[.string ⟨#[]⟩, .slice none 0 0, .string ⟨#[]⟩, .slice none 0 0] 66 (0, 0))) (.cells #[.string y, .slice (some ⟨wr.heap.size, 0, none⟩) 2 2] 66 (0, 0))) (.cells #[.string y, .slice (some ⟨wr.heap.size, 0, none⟩) 2 2, .string ⟨#[]⟩, .slice none 0 0] 66 (0, 0))) (.cells #[.string ⟨#[]⟩, .slice none 0 0, .string y, .slice (some ⟨wr.heap.size, 0, none⟩) 2 2] 66 (0, 0))) (.cells #[.string x, .slice (some ⟨wr.heap.size + 1 + 1, 0, none⟩) 2 2, .string x, .slice (some ⟨wr.heap.size + 1 + 1 + 1, 0, none⟩) 2 2] 66 (0, 0))
                  have HOWN5 := Lib.hid OWN5
                  clear OWN5
                  have STEP : Hid (∀ (g q : Nat) (w6 : World), w6.ownsRow w.heap.size 66 2 (.slice (some ⟨g, 0, none⟩) (m2 + 2) q) (m2 + 2) (vs ++ [.string x, .slice (some ⟨wr.heap.size + 1 + 1, 0, none⟩) 2 2, .string x, .slice (some ⟨wr.heap.size + 1 + 1 + 1, 0, none⟩) 2 2]) → ((((((wr.alloc (.cells #[.string ⟨#[]⟩, .slice none 0 0, .string ⟨#[]⟩, .slice none 0 0] 66 (0, 0))).alloc (.cells #[.string y, .slice (some ⟨wr.heap.size, 0, none⟩) 2 2] 66 (0, 0))).alloc (.cells #[.string y, .slice (some ⟨wr.heap.size, 0, none⟩) 2 2, .string ⟨#[]⟩, .slice none 0 0] 66 (0, 0))).alloc (.cells #[.string ⟨#[]⟩, .slice none 0 0, .string y, .slice (some ⟨wr.heap.size, 0, none⟩) 2 2] 66 (0, 0))).alloc (.cells #[.string x, .slice (some ⟨wr.heap.size + 1 + 1, 0, none⟩) 2 2, .string x, .slice (some ⟨wr.heap.size + 1 + 1 + 1, 0, none⟩) 2 2] 66 (0, 0)))).grownBy w6 (Value.slice va m2 vc).ownBlock → ((Value.slice va m2 vc).ownBlock = some g ∨ wr.heap.size + 5 ≤ g) →
                      QAll ss w (fun cs => (cs.take i).flatMap (quadRow cs) ++ (cs.take (k + 1)).flatMap (quadTwo (cs.getD i 0))) (m2 + 2) (.slice (some ⟨g, 0, none⟩) (m2 + 2) q) w6) := Lib.hid (fun g q w6 h1 h2 h3 =>
                    QAll.step HOWN.out HROW.out HBK.out (fun cs hcs => by
                      obtain ⟨a1, a2, a3, a4⟩ := letters_at hcs hlts
                      obtain ⟨b1, b2, b3, b4⟩ := letters_at hcs hlks
                      have b5 : cs.getD k 0 = cs[k] := by rw [List.getD_eq_getElem?_getD, List.getElem?_eq_getElem b1]; rfl
                      refine ⟨cs.getD i 0, cs.getD k 0, by rw [HX.out, a2], by rw [HY.out, b2], ⟨a3, a4⟩, ⟨b3, b4⟩, ?_⟩
                      rw [quadRow_take cs _ b1, b5, List.append_assoc]) h1 h2 h3)
                  by_cases hki : k < i
                  · have hd : decide ((k : Int) < (i : Int)) = true := decide_eq_true (by omega)
                    have hd2 : decide (k < i) = true := decide_eq_true hki
                    by_cases hsame : y = x
                    · have HF : Hid (quadsOf ss = none) := Lib.hid (quads_no (let_dup hlts hki (by rw [← HY.out, ← HX.out, hsame])))
                      subst hsame
                      have hyy : (y.toList == y.toList) = true := by simp
                      go_wp2_with fail
                      go_ret2
                      exact ⟨HBK.out.alloc HBK.out.size _, .inl ⟨HF.out, _, _, rfl⟩⟩
                    · have hsb : (y.toList == x.toList) = false := ba_ne hsame
                      have HSM := Lib.hid hsame
                      clear hsame
                      go_wp2_with (at_builtin; refine wpList_append_own_at _ rfl _ _ 44 rfl w.heap.size 66 i0 (.agg #[.string ⟨#[]⟩, .slice none 0 0]) 2 40 Tryz.underlying44 hi0 hzz hzs hzb rfl (by decide) (.slice va m2 vc) m2 vs rfl HOWN5.out ⟨wr.heap.size + 1 + 1 + 1 + 1, 0, none⟩ 2 2 [.string x, .slice (some ⟨wr.heap.size + 1 + 1, 0, none⟩) 2 2, .string x, .slice (some ⟨wr.heap.size + 1 + 1 + 1, 0, none⟩) 2 2] rfl rfl (World.news_of_block (by first | exact heap_alloc_new _ _ | (rw [show wr.heap.size + 1 + 1 + 1 + 1 = ((((wr.alloc (.cells #[.string ⟨#[]⟩, .slice none 0 0, .string ⟨#[]⟩, .slice none 0 0] 66 (0, 0))).alloc (.cells #[.string y, .slice (some ⟨wr.heap.size, 0, none⟩) 2 2] 66 (0, 0))).alloc (.cells #[.string y, .slice (some ⟨wr.heap.size, 0, none⟩) 2 2, .string ⟨#[]⟩, .slice none 0 0] 66 (0, 0))).alloc (.cells #[.string ⟨#[]⟩, .slice none 0 0, .string y, .slice (some ⟨wr.heap.size, 0, none⟩) 2 2] 66 (0, 0))).heap.size by simp]; exact heap_alloc_new _ _))) (by simp [Value.oneCell']) (by unfold maxLen; omega) (by omega) (by simp; omega) ?_; intro v3 w6 hown3 hg3 hnil3 hat3)
                      obtain ⟨g3, q3, rfl, _, _, _⟩ := owns_some hown3 (fun e => by have := hnil3.1 e; simp at this)
                      have HNX := Lib.hid (STEP.out g3 q3 w6 hown3 hg3 (by
                        rcases hat3 with h | h
                        · left; rw [← h]; rfl
                        · right; simp [Value.ownBlock] at h; omega))
                      clear hown3 hg3 hnil3 hat3
                      exact ⟨⟨k + 1, m2 + 2, by omega, by omega, by go_num, fun j hj hji => by
                        by_cases e : j = k
                        · subst e; rw [← HX.out, ← HY.out]; exact HSM.out
                        · exact HNE.out j (by omega) hji, HNX.out⟩, by simp [intOf]; omega⟩
                  · have hd : decide ((k : Int) < (i : Int)) = false := decide_eq_false (by omega)
                    have hd2 : decide (k < i) = false := decide_eq_false hki
                    have HSM := Lib.hid hki
                    go_wp2_with (at_builtin; refine wpList_append_own_at _ rfl _ _ 44 rfl w.heap.size 66 i0 (.agg #[.string ⟨#[]⟩, .slice none 0 0]) 2 40 Tryz.underlying44 hi0 hzz hzs hzb rfl (by decide) (.slice va m2 vc) m2 vs rfl HOWN5.out ⟨wr.heap.size + 1 + 1 + 1 + 1, 0, none⟩ 2 2 [.string x, .slice (some ⟨wr.heap.size + 1 + 1, 0, none⟩) 2 2, .string x, .slice (some ⟨wr.heap.size + 1 + 1 + 1, 0, none⟩) 2 2] rfl rfl (World.news_of_block (by first | exact heap_alloc_new _ _ | (rw [show wr.heap.size + 1 + 1 + 1 + 1 = ((((wr.alloc (.cells #[.string ⟨#[]⟩, .slice none 0 0, .string ⟨#[]⟩, .slice none 0 0] 66 (0, 0))).alloc (.cells #[.string y, .slice (some ⟨wr.heap.size, 0, none⟩) 2 2] 66 (0, 0))).alloc (.cells #[.string y, .slice (some ⟨wr.heap.size, 0, none⟩) 2 2, .string ⟨#[]⟩, .slice none 0 0] 66 (0, 0))).alloc (.cells #[.string ⟨#[]⟩, .slice none 0 0, .string y, .slice (some ⟨wr.heap.size, 0, none⟩) 2 2] 66 (0, 0))).heap.size by simp]; exact heap_alloc_new _ _))) (by simp [Value.oneCell']) (by unfold maxLen; omega) (by omega) (by simp; omega) ?_; intro v3 w6 hown3 hg3 hnil3 hat3)
                    obtain ⟨g3, q3, rfl, _, _, _⟩ := owns_some hown3 (fun e => by have := hnil3.1 e; simp at this)
                    have HNX := Lib.hid (STEP.out g3 q3 w6 hown3 hg3 (by
                      rcases hat3 with h | h
                      · left; rw [← h]; rfl
                      · right; simp [Value.ownBlock] at h; omega))
                    clear hown3 hg3 hnil3 hat3
                    exact ⟨⟨k + 1, m2 + 2, by omega, by omega, by go_num, fun j hj hji => by
                      by_cases e : j = k
                      · subst e; exact absurd hji HSM.out
                      · exact HNE.out j (by omega) hji, HNX.out⟩, by simp [intOf]; omega⟩
                · have hkn : k = n := by omega
                  have HNX : Hid (∃ (i' m' : Nat), i' ≤ n ∧ m' ≤ 6 * i' ∧ (Value.int .i64 ((i : Int) + 1)) = .int .i64 i' ∧ (letAll (ss.take i')).isSome = true ∧ QAll ss w (fun cs => (cs.take i').flatMap (quadRow cs)) m' (.slice va m2 vc) wr) := Lib.hid (by
                    refine ⟨i + 1, m2, by omega, by omega, by simp, let_next hlts HLET.out HONE.out (fun j hj => HNE.out j (by omega) hj), HQ2.out.congr (fun cs hcs => ?_)⟩
                    obtain ⟨a1, a2, _, _⟩ := letters_at hcs hlts
                    obtain ⟨h1, _, _⟩ := lettersOf_ok hcs
                    have hlen : ss.length = cs.length := by
                      have := congrArg List.length h1.txt
                      rw [List.length_map] at this; exact this
                    have a3 : cs.getD i 0 = cs[i] := by rw [List.getD_eq_getElem?_getD, List.getElem?_eq_getElem a1]; rfl
                    rw [quadAll_take cs a1, a3, hkn, HNN.out, hlen, List.take_length]; rfl)
                  go_wp2_with fail
                  exact ⟨HNX.out, by simp [intOf]; omega⟩
        · have hne : ((x.size : Int) != 1) = true := by simp; omega
          have HF : Hid (quadsOf ss = none) := Lib.hid (quads_no (let_bad hlts (by rw [← HX.out]; exact let_one_size h1)))
          clear h1
          go_wp2_with fail
          go_ret2
          exact ⟨HB.out.alloc HB.out.size _, .inl ⟨HF.out, _, _, rfl⟩⟩
      · have hin2 : i = n := by omega
        obtain ⟨cs, hcs⟩ : ∃ cs, lettersOf ss = some cs := by
          have h := HLET.out
          rw [hin2, HNN.out, List.take_length] at h
          cases hc : letAll ss with
          | none => rw [hc] at h; cases h
          | some cs => exact ⟨cs, by rw [lettersOf, if_pos (by have := HNN.out; omega), hc]⟩
        obtain ⟨h1, h2, h3⟩ := lettersOf_ok hcs
        have hlen : ss.length = cs.length := by
          have := congrArg List.length h1.txt
          rw [List.length_map] at this; exact this
        have hqa : (cs.take i).flatMap (quadRow cs) = quadAll cs := by
          rw [hin2, HNN.out, hlen, List.take_length]; rfl
        have hrl : (quadAll cs).length = m := by rw [← hqa]; exact (HROW.out cs hcs).1
        have hrr : Row trS 66 w.heap.size (quadAll cs) (.slice va m vc) vs wo := by rw [← hqa]; exact (HROW.out cs hcs).2
        obtain ⟨gv, rfl, _⟩ := owns_addr HOWN.out HVA.out
        have hw := quad_wf h1.let_
        have HSO := Lib.hid (fun (W : World) (hb : Below wo.heap.size wo W) => l2Sort_any (quadAll cs) m hrl.symm gv vc W (by omega) (fun t ht => by have := hw t ht; exact ⟨this.1, by omega, by omega⟩) (quadRows_nodup h1.nodup cs h1.nodup) (hrr.rd.below (by decide) hb))
        have HEQ : Hid (quadsOf ss = some (downT (quadAll cs))) := Lib.hid (by rw [quadsOf, hcs]; rfl)
        have HWF : Hid (∀ t ∈ quadAll cs, t.wf) := Lib.hid (fun t ht => (hw t ht).1)
        have HRL := Lib.hid hrl
        clear h1 h2 h3 hlen hqa hrl hrr hcs hw
        go_wp2_with fail
        refine (HSO.out _ (Below.refl _ _)).mono ?_
        rintro e w1 ⟨us, hasc, hperm, hB1, g1, c1, rfl, hc1, hc2, hru⟩
        have HDN : Hid (us.reverse = downT (quadAll cs)) := Lib.hid (asc_down hasc hperm HWF.out)
        have HPL : Hid (us.length ≤ 1000) := Lib.hid (by rw [hperm.length_eq, HRL.out]; omega)
        obtain ⟨L, hL⟩ : ∃ L, L = us.length := ⟨_, rfl⟩
        rw [← hL] at hc1
        rw [← hL]
        have HLL := Lib.hid hL
        have hL1 : L ≤ 1000 := by rw [hL]; exact HPL.out
        have HRU := Lib.hid hru
        have HB1 := Lib.hid (below_step HB.out hB1)
        have hs1 : w.heap.size ≤ w1.heap.size := HB1.out.size
        clear hasc hperm hB1 hru hL
        go_wp2_with fail
        go_loopw [10, 11] (fun ov kv wr => ∃ (k j : Nat) (va : Option Addr) (vc : Nat) (vs : List Value), j + k = L ∧ va ≠ none ∧ kv = .int .i64 ((k : Int) - 1) ∧ ov = .slice va j vc ∧ (us.reverse.take j).length = j ∧ Row trS 66 w1.heap.size (us.reverse.take j) (.slice va j vc) vs wr ∧ Below w1.heap.size w1 wr) (fun _ kv _ => (intOf kv + 1).toNat)
        case atStart =>
          refine ⟨L, 0, some ⟨w1.heap.size, 0, none⟩, 0, [], by omega, by simp, rfl, rfl, by simp, ?_, (Below.refl _ _).alloc (Nat.le_refl _) _⟩
          exact ⟨World.ownsRow_made w1 #[] 0 (Nat.le_refl _) (by simp [maxLen]) rfl, fun _ h => by simp at h⟩
        case round =>
          obtain ⟨k, j, va, vc, vs, hjk, hva, rfl, rfl, hjl, hrow, hB⟩ := hrel
          have HVA := Lib.hid hva
          have HJL := Lib.hid hjl
          have HROW := Lib.hid hrow
          have HBR := Lib.hid hB
          have hszr : w1.heap.size ≤ wr.heap.size := hB.size
          cases k with
          | zero =>
            have hjL : j = L := by omega
            obtain ⟨gv, rfl, _⟩ := owns_addr HROW.out.own HVA.out
            obtain ⟨_, _, e5, q1, q2, _⟩ := owns_some HROW.out.own (by simp)
            simp only [Value.slice.injEq] at e5
            obtain ⟨_, _, rfl⟩ := e5
            rw [HJL.out] at q1
            have HQ12 := Lib.hid (And.intro q1 q2)
            have HFIN : Hid (us.reverse.take j = downT (quadAll cs)) := Lib.hid (by rw [hjL, HLL.out, ← List.length_reverse, List.take_length]; exact HDN.out)
            clear hva hjl hrow hB q1 q2
            go_wp2_with fail
            go_ret2
            refine ⟨below_step HB1.out HBR.out, .inr ⟨_, gv, vc, HEQ.out, ?_, ?_, HQ12.out.2, ?_⟩⟩
            · rw [← HFIN.out, HJL.out]; rfl
            · rw [← HFIN.out, HJL.out]; exact HQ12.out.1
            · rw [← HFIN.out]; exact HROW.out.rd
          | succ k =>
            have hku : k < us.length := by rw [← HLL.out]; omega
            obtain ⟨g1', lb, sa, sn, sc, eg1, _, d1, d2, hwt, hrt⟩ := trS.get (HRU.out.below (by decide) hB) k hku
            cases eg1
            have hrt := (trS.get ((HRU.out.weak (P' := fun b => b < w1.heap.size) (by decide) (fun _ _ h => h)).below (by decide) hB) k hku)
            obtain ⟨g1', lb', sa', sn', sc', eg1, _, d1', d2', hwt, hrt⟩ := hrt
            cases eg1
            rw [d1] at d1'
            rw [d2] at d2'
            cases d1'
            cases d2'
            have HUK : Hid (us.reverse.take (j + 1) = us.reverse.take j ++ [us[k]]) := Lib.hid (by
              rw [List.take_succ_eq_append_getElem (by rw [List.length_reverse, ← HLL.out]; omega)]
              congr 2
              rw [List.getElem_reverse]
              congr 1
              have := HLL.out; omega)
            obtain ⟨t, ht⟩ : ∃ t, t = us[k] := ⟨_, rfl⟩
            rw [← ht] at hwt hrt HUK
            have hrx := hrt.keep (P' := fun b => (Value.slice va j vc).ownBlock ≠ some b) (fun _ _ _ h => h) (fun b hb _ e => by have := (HROW.out.own.lt b e).1; omega) hwt
            have HRX := Lib.hid hrx
            have HWT := Lib.hid hwt
            have e1 : ((k + 1 : Nat) : Int) - 1 = (k : Int) := by omega
            rw [e1]
            have k0 : (0 : Int) ≤ (k : Int) := by omega
            have kL : (k : Int) < (L : Int) := by omega
            have OWN := HROW.out.own
            rw [HJL.out] at OWN
            have HOWN := Lib.hid OWN
            have HOA := Lib.hid (World.ownsRow.alloc OWN (.cells #[.string lb, .slice sa sn sc] 66 (0, 0)))
            clear hva hjl hrow hB ht hrt hrx hwt e1 OWN
            go_wp2_with (at_builtin; refine wpList_append_own_at _ rfl _ _ 44 rfl w1.heap.size 66 i0 (.agg #[.string ⟨#[]⟩, .slice none 0 0]) 2 40 Tryz.underlying44 hi0 hzz hzs hzb rfl (by decide) (.slice va j vc) j vs rfl HOA.out ⟨wr.heap.size, 0, none⟩ 1 1 [.string lb, .slice sa sn sc] rfl rfl (World.news_of_block (heap_alloc_new _ _)) (by simp [Value.oneCell']) (by unfold maxLen; omega) (by omega) (by simp; omega) ?_; intro v3 w6 hown3 hg3 hnil3 hat3)
            obtain ⟨g3, q3, rfl, _, _, _⟩ := owns_some hown3 (fun e => by have := hnil3.1 e; simp at this)
            have NX : Row trS 66 w1.heap.size (us.reverse.take (j + 1)) (.slice (some ⟨g3, 0, none⟩) (j + 1) q3) (vs ++ [.string lb, .slice sa sn sc]) w6 := by
              have h := HROW.out.next (a := t) (g := g3) (cap := q3) (w1 := wr) (w1' := wr.alloc (.cells #[.string lb, .slice sa sn sc] 66 (0, 0))) (Below.refl _ _) ⟨lb, sa, sn, sc, rfl, HWT.out, HRX.out⟩ ((Below.refl _ _).alloc (Nat.le_refl _) _) (by rw [HJL.out]; exact hown3) hg3 (by
                rcases hat3 with h | h
                · left; rw [← h]; rfl
                · right; simp [Value.ownBlock] at h; omega)
              rw [HJL.out, ← HUK.out] at h
              exact h
            have HNX := Lib.hid NX
            have BB := Lib.hid ((HBR.out.alloc (by omega) (.cells #[.string lb, .slice sa sn sc] 66 (0, 0))).grown hg3 (by simp; omega) (fun q e => by have := (HOWN.out.lt q e).1; omega))
            clear NX hown3 hg3 hnil3 hat3
            exact ⟨⟨k, j + 1, some ⟨g3, 0, none⟩, q3, _, by omega, by simp, by first | rfl | go_num, rfl, by rw [HUK.out, List.length_append, HJL.out]; rfl, HNX.out, BB.out⟩, by simp [intOf]⟩
  · have HBN := Lib.hid (decide_eq_false hin)
    have HF : Hid (quadsOf ss = none) := Lib.hid (quads_no (by unfold lettersOf; rw [if_neg (fun h => hin (by have := HNN.out; omega))]))
    clear hin
    go_enter Tryz.func45, Tryz.ntmps45
    go_wp2_with (go_at_call 60; refine (l6In_any _ _ _ _).mono ?_; rintro e w' ⟨rfl, rfl⟩; rw [HBN.out])
    go_ret2
    exact ⟨(Below.refl _ _).alloc (Nat.le_refl _) _, .inl ⟨HF.out, _, _, rfl⟩⟩
/-- What 'QuadTrees' answers, the model's. -/
def SList2 (ps : List (List UInt8)) (b : Bool) (w : World) (e : Ending) (w' : World) : Prop :=
  Below w.heap.size w w' ∧ ∃ a cap, e = .returned (.tuple #[.slice a ps.length cap, .bool b]) ∧ Lies w' a ps

def quadTx (ss : List ByteArray) : List (List UInt8) := ((quadsOf ss).getD []).map T.text

end Go.Proofs.YtoeebipahifpcaaGreat
end
