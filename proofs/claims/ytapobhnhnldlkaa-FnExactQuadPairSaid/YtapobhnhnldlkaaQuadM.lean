/- Quadratic trees as mathematics: which letters tell them, and their order. No walk here. -/
import Derived.Test.YtapobhnhnldlkaaSumM
namespace Go.Proofs.Ytapobhnhnldlkaa

/-- Trees in ascending order, none twice. -/
def AscT (us : List T) : Prop := us.Pairwise (fun a b => ordT a b < 0)

/-- All trees of a list, the greater ones first. -/
def downT (ts : List T) : List T := (canon (ts.map fun t => ((1 : Int), t))).map (·.2)

theorem cf_map_s (s : T → Int) : ∀ (ps : List Tm), (∀ p ∈ ps, p.2.wf) → ∀ u : T, u.wf → cf (ps.map fun p => (s p.2 * p.1, p.2)) u = s u * cf ps u
  | [], _, u, _ => by simp [cf]
  | p :: ps, h, u, hu => by
    have ih := cf_map_s s ps (fun q hq => h q (by simp [hq])) u hu
    simp only [List.map_cons, cf, ih]
    by_cases e : ordT p.2 u = 0
    · have := ordT_zero (h p (by simp)) hu e
      rw [if_pos e, if_pos e, this, Int.mul_add]
    · rw [if_neg e, if_neg e, Int.zero_add, Int.zero_add]

theorem cf_ones_le : ∀ (ts : List T), (∀ t ∈ ts, t.wf) → ts.Nodup → ∀ u, u ∈ ts → cf (ts.map fun t => ((1 : Int), t)) u = 1
  | [], _, _, u, hu => by simp at hu
  | t :: ts, h, hn, u, hu => by
    have hn' := List.nodup_cons.1 hn
    simp only [List.map_cons, cf]
    rcases List.mem_cons.1 hu with e | e
    · subst e
      rw [if_pos (isCmp_ordT.self _), cf_none]
      · rfl
      · intro p hp h0
        obtain ⟨q, hq, rfl⟩ := List.mem_map.1 hp
        have := ordT_zero (h q (by simp [hq])) (h u (by simp)) h0
        exact hn'.1 (this ▸ hq)
    · rw [cf_ones_le ts (fun q hq => h q (by simp [hq])) hn'.2 u e, if_neg]
      · rfl
      · intro h0
        have := ordT_zero (h t (by simp)) (h u (by simp [e])) h0
        exact hn'.1 (this ▸ e)

theorem NF.cf_mem : ∀ {l : List Tm}, NF l → ∀ p ∈ l, cf l p.2 = p.1
  | [], _, p, hp => by simp at hp
  | q :: l, h, p, hp => by
    rcases List.mem_cons.1 hp with e | e
    · subst e; exact h.cf_head
    · rw [cf, if_neg (by have := h.head p e; omega), h.tail.cf_mem p e]; omega

/-- The sum of trees with coefficients of their own. -/
theorem canon_signs {ts : List T} (hw : ∀ t ∈ ts, t.wf) (hn : ts.Nodup) (s : T → Int) (hs : ∀ t ∈ ts, s t % 101 ≠ 0) :
    canon (ts.map fun t => (s t, t)) = (downT ts).map fun t => (s t % 101, t) := by
  have hw1 : ∀ p ∈ ts.map (fun t => ((1 : Int), t)), p.2.wf := fun p hp => by
    obtain ⟨q, hq, rfl⟩ := List.mem_map.1 hp; exact hw q hq
  have hK := NF.canon hw1
  obtain ⟨K, hKe⟩ : ∃ K, K = canon (ts.map fun t => ((1 : Int), t)) := ⟨_, rfl⟩
  rw [← hKe] at hK
  have hmem : ∀ p ∈ K, p.2 ∈ ts ∧ p.1 = 1 := fun p hp => by
    have h1 : p.2 ∈ ts := by
      rw [hKe] at hp
      obtain ⟨q, hq, e⟩ := mem_canon hp
      obtain ⟨r, hr, rfl⟩ := List.mem_map.1 hq
      rw [e]; exact hr
    refine ⟨h1, ?_⟩
    have h2 := hK.cf_mem p hp
    have h3 := cf_ones_le ts hw hn p.2 h1
    have h4 := cf_canon (ts.map fun t => ((1 : Int), t)) p.2
    rw [← hKe] at h4
    have h5 := hK.2 p hp
    omega
  have hd : downT ts = K.map (·.2) := by rw [downT, hKe]
  rw [hd, List.map_map]
  symm
  apply canon_of
  · refine ⟨?_, ?_⟩
    · rw [List.pairwise_map]
      exact hK.1
    · intro p hp
      obtain ⟨q, hq, rfl⟩ := List.mem_map.1 hp
      have := hs q.2 (hmem q hq).1
      exact ⟨by simp; omega, by simp; omega, (hK.2 q hq).2.2⟩
  · intro p hp
    obtain ⟨q, hq, rfl⟩ := List.mem_map.1 hp; exact hw q hq
  · intro t
    have e1 : ts.map (fun t => (s t, t)) = (ts.map fun t => ((1 : Int), t)).map (fun p => (s p.2 * p.1, p.2)) := by simp [List.map_map]
    have e2 : (cf (K.map ((fun t => (s t % 101, t)) ∘ (·.2))) t - cf (K.map fun p => (s p.2, p.2)) t) % 101 = 0 := cf_map_congr K (fun p => (s p.2 % 101, p.2)) (fun p => (s p.2, p.2)) (fun p => ⟨rfl, by show (s p.2 % 101 - s p.2) % 101 = 0; omega⟩) t
    have e3 : (K.map fun p => (s p.2, p.2)) = K.map (fun p => (s p.2 * p.1, p.2)) := List.map_congr_left (fun p hp => by rw [(hmem p hp).2, Int.mul_one])
    have h4 := cf_canon (ts.map fun t => ((1 : Int), t)) t
    rw [← hKe] at h4
    rw [e3] at e2
    rw [e1]
    by_cases hx : ∃ u ∈ ts, ordT t u = 0
    · obtain ⟨u, hu, h0⟩ := hx
      rw [cf_congr _ h0] at e2 h4 ⊢
      rw [cf_congr _ h0] at e2 h4 ⊢
      rw [cf_map_s s K (fun p hp => (hK.2 p hp).2.2) u (hw u hu)] at e2
      rw [cf_map_s s _ hw1 u (hw u hu)]
      generalize cf (K.map ((fun t => (s t % 101, t)) ∘ (·.2))) u = a at *
      generalize cf K u = b at *
      generalize cf (ts.map fun t => ((1 : Int), t)) u = c at *
      obtain ⟨d, hd⟩ : ∃ d, b = c + 101 * d := ⟨(b - c) / 101, by omega⟩
      subst hd
      rw [Int.mul_add, Int.mul_left_comm] at e2
      omega
    · have z : ∀ (l : List Tm) (f : Tm → Int), (∀ p ∈ l, p.2 ∈ ts) → cf (l.map fun p => (f p, p.2)) t = 0 := fun l f hl => cf_none (fun p hp h0 => by
        obtain ⟨q, hq, rfl⟩ := List.mem_map.1 hp
        exact hx ⟨q.2, hl q hq, by have h1 : ordT q.2 t = 0 := h0; have := isCmp_ordT.anti q.2 t; omega⟩)
      have z1 := z K (fun p => s p.2 * p.1) (fun p hp => (hmem p hp).1)
      have z2 := z (ts.map fun t => ((1 : Int), t)) (fun p => s p.2 * p.1) (fun p hp => by obtain ⟨q, hq, rfl⟩ := List.mem_map.1 hp; exact hq)
      rw [z1] at e2
      rw [z2]
      omega

theorem downT_mem {ts : List T} {t : T} : t ∈ downT ts → t ∈ ts := fun h => by
  obtain ⟨p, hp, rfl⟩ := List.mem_map.1 h
  obtain ⟨q, hq, e⟩ := mem_canon hp
  obtain ⟨r, hr, rfl⟩ := List.mem_map.1 hq
  rw [e]; exact hr

theorem downT_desc {ts : List T} (hw : ∀ t ∈ ts, t.wf) : (downT ts).Pairwise (fun a b => 0 < ordT a b) := by
  have hw1 : ∀ p ∈ ts.map (fun t => ((1 : Int), t)), p.2.wf := fun p hp => by
    obtain ⟨q, hq, rfl⟩ := List.mem_map.1 hp; exact hw q hq
  rw [downT, List.pairwise_map]
  exact (NF.canon hw1).1

theorem downT_length_le (ts : List T) : (downT ts).length ≤ ts.length := by
  have := canon_length (ts.map fun t => ((1 : Int), t))
  rw [downT, List.length_map]; simpa using this

/-- What is sorted and has the same trees is this list, read from its end. -/
theorem asc_down {us ts : List T} (hu : AscT us) (hp : us.Perm ts) (hw : ∀ t ∈ ts, t.wf) : us.reverse = downT ts := by
  have hwu : ∀ t ∈ us, t.wf := fun t ht => hw t (hp.mem_iff.1 ht)
  have e : canon (ts.map fun t => ((1 : Int), t)) = us.reverse.map fun t => ((1 : Int), t) := by
    symm
    apply canon_of
    · refine ⟨?_, ?_⟩
      · rw [List.pairwise_map, List.pairwise_reverse]
        exact hu.imp (fun {a b} h => by have := isCmp_ordT.anti a b; simp; omega)
      · intro p hp'
        obtain ⟨q, hq, rfl⟩ := List.mem_map.1 hp'
        exact ⟨by simp, by simp, hwu q (by simpa using hq)⟩
    · intro p hp'
      obtain ⟨q, hq, rfl⟩ := List.mem_map.1 hp'
      exact hw q hq
    · intro t
      have := cf_perm ((us.reverse_perm.trans hp).map fun t => ((1 : Int), t)) t
      rw [this]; omega
  rw [downT, e, List.map_map]
  simp [Function.comp_def]

theorem AscT.put {us : List T} {t : T} {k : Nat} (h : AscT us) (hk : k ≤ us.length) (ha : ∀ j (hj : j < us.length), k ≤ j → ordT t us[j] < 0) (hb : ∀ h0 : 0 < k, 0 < ordT t (us[k - 1]'(by omega))) : AscT (us.take k ++ t :: us.drop k) := by
  unfold AscT at *
  rw [List.pairwise_append, List.pairwise_cons]
  have hs : (us.take k ++ us.drop k).Pairwise (fun a b => ordT a b < 0) := by rw [List.take_append_drop]; exact h
  rw [List.pairwise_append] at hs
  refine ⟨hs.1, ⟨?_, hs.2.1⟩, ?_⟩
  · intro x hx
    obtain ⟨j, hj, rfl⟩ := List.getElem_of_mem hx
    simp only [List.length_drop] at hj
    rw [List.getElem_drop]
    exact ha (k + j) (by omega) (by omega)
  · intro x hx y hy
    have hxt : ordT x t < 0 := by
      obtain ⟨j, hj, rfl⟩ := List.getElem_of_mem hx
      simp only [List.length_take] at hj
      rw [List.getElem_take]
      have h0 : 0 < k := by omega
      have h1 := hb h0
      have h2 := isCmp_ordT.anti t (us[k - 1]'(by omega))
      by_cases e : j = k - 1
      · subst e; omega
      · have h3 : ordT (us[j]'(by omega)) (us[k - 1]'(by omega)) < 0 := List.pairwise_iff_getElem.1 h j (k - 1) (by omega) (by omega) (by omega)
        exact isCmp_ordT.lt_le h3 (by omega)
    rcases List.mem_cons.1 hy with e | e
    · subst e; exact hxt
    · exact isCmp_ordT.lt_le hxt (by
        obtain ⟨j, hj, rfl⟩ := List.getElem_of_mem e
        simp only [List.length_drop] at hj
        rw [List.getElem_drop]
        have := ha (k + j) (by omega) (by omega)
        omega)

theorem perm_put {us ts : List T} {t : T} (k : Nat) (h : us.Perm ts) : (us.take k ++ t :: us.drop k).Perm (ts ++ [t]) := by
  have h1 : (us.take k ++ t :: us.drop k).Perm (t :: us) := by
    have := List.perm_middle (a := t) (l₁ := us.take k) (l₂ := us.drop k)
    rwa [List.take_append_drop] at this
  exact h1.trans ((List.Perm.cons t h).trans (List.perm_append_comm (l₁ := [t]) (l₂ := ts)))

/-! The quadratic trees. -/

def quadL (x y : UInt8) : T := .node x [.node y [.leaf, .leaf], .leaf]
def quadR (x y : UInt8) : T := .node x [.leaf, .node y [.leaf, .leaf]]
def quadTwo (x y : UInt8) : List T := [quadL x y, quadR x y]
def quadRow (cs : List UInt8) (x : UInt8) : List T := cs.flatMap (quadTwo x)
/-- In the order in which letters stand. -/
def quadAll (cs : List UInt8) : List T := cs.flatMap (quadRow cs)
/-- The sign in a pairing. -/
def quadSign : T → Int
  | .node _ (.leaf :: _) => -1
  | _ => 1

theorem quadRow_take (cs : List UInt8) (x : UInt8) {k : Nat} (hk : k < cs.length) : (cs.take (k + 1)).flatMap (quadTwo x) = (cs.take k).flatMap (quadTwo x) ++ [quadL x cs[k], quadR x cs[k]] := by
  rw [List.take_succ_eq_append_getElem hk, List.flatMap_append]; simp [quadTwo]
theorem quadAll_take (cs : List UInt8) {k : Nat} (hk : k < cs.length) : (cs.take (k + 1)).flatMap (quadRow cs) = (cs.take k).flatMap (quadRow cs) ++ quadRow cs cs[k] := by
  rw [List.take_succ_eq_append_getElem hk, List.flatMap_append]; simp

theorem quadAll_mem {cs : List UInt8} {t : T} : t ∈ quadAll cs ↔ ∃ x ∈ cs, ∃ y ∈ cs, t = quadL x y ∨ t = quadR x y := by
  simp [quadAll, quadRow, quadTwo, List.mem_flatMap]

theorem quadTwo_length (x : UInt8) : ∀ cs : List UInt8, (cs.flatMap (quadTwo x)).length = 2 * cs.length
  | [] => rfl
  | c :: cs => by rw [List.flatMap_cons, List.length_append, quadTwo_length x cs]; simp [quadTwo]; omega
theorem quadRows_length (cs : List UInt8) : ∀ ds : List UInt8, (ds.flatMap (quadRow cs)).length = 2 * cs.length * ds.length
  | [] => by simp
  | d :: ds => by
    rw [List.flatMap_cons, List.length_append, quadRows_length cs ds, quadRow, quadTwo_length]
    simp only [List.length_cons, Nat.mul_succ]; omega

theorem quad_wf {cs : List UInt8} (h : ∀ c ∈ cs, 97 ≤ c.toNat ∧ c.toNat ≤ 104) : ∀ t ∈ quadAll cs, t.wf ∧ t.leaves = 3 ∧ t.nodes = 2 := fun t ht => by
  obtain ⟨x, hx, y, hy, e⟩ := quadAll_mem.1 ht
  have h1 := h x hx
  have h2 := h y hy
  rcases e with rfl | rfl
  · refine ⟨?_, rfl, rfl⟩
    simp only [quadL, T.wf, T.wfL, List.length_cons, List.length_nil]
    exact ⟨h1.1, h1.2, by omega, by omega, ⟨h2.1, h2.2, by omega, by omega, trivial, trivial, trivial⟩, trivial, trivial⟩
  · refine ⟨?_, rfl, rfl⟩
    simp only [quadR, T.wf, T.wfL, List.length_cons, List.length_nil]
    exact ⟨h1.1, h1.2, by omega, by omega, trivial, ⟨h2.1, h2.2, by omega, by omega, trivial, trivial, trivial⟩, trivial⟩

theorem quadTwo_nodup (x : UInt8) : ∀ (cs : List UInt8), cs.Nodup → (cs.flatMap (quadTwo x)).Nodup
  | [], _ => by simp
  | c :: cs, h => by
    have h' := List.nodup_cons.1 h
    rw [List.flatMap_cons, List.nodup_append]
    refine ⟨by simp [quadTwo, quadL, quadR], quadTwo_nodup x cs h'.2, ?_⟩
    intro a ha b hb e
    subst e
    obtain ⟨d, hd, hb⟩ := List.mem_flatMap.1 hb
    have hcd : c ≠ d := fun e => h'.1 (e ▸ hd)
    simp only [quadTwo, List.mem_cons, List.not_mem_nil, or_false] at ha hb
    rcases ha with rfl | rfl <;> rcases hb with e | e <;> simp [quadL, quadR] at e <;> exact hcd e
theorem quadRows_nodup {cs : List UInt8} (hc : cs.Nodup) : ∀ (ds : List UInt8), ds.Nodup → (ds.flatMap (quadRow cs)).Nodup
  | [], _ => by simp
  | d :: ds, h => by
    have h' := List.nodup_cons.1 h
    rw [List.flatMap_cons, List.nodup_append]
    refine ⟨quadTwo_nodup d cs hc, quadRows_nodup hc ds h'.2, ?_⟩
    intro a ha b hb e
    subst e
    obtain ⟨x, hx, hb⟩ := List.mem_flatMap.1 hb
    have hdx : d ≠ x := fun e => h'.1 (e ▸ hx)
    obtain ⟨y, _, ha⟩ := List.mem_flatMap.1 ha
    obtain ⟨z, _, hb⟩ := List.mem_flatMap.1 hb
    simp only [quadTwo, List.mem_cons, List.not_mem_nil, or_false] at ha hb
    rcases ha with rfl | rfl <;> rcases hb with e | e <;> simp [quadL, quadR] at e <;> exact hdx e.1

/-! Which letters tell quadratic trees. -/

def letOne : List UInt8 → Option UInt8
  | [c] => if 97 ≤ (c.toNat : Int) ∧ (c.toNat : Int) ≤ 104 then some c else none
  | _ => none

def letStep (acc : Option (List UInt8)) (s : ByteArray) : Option (List UInt8) :=
  match acc, letOne s.data.toList with
  | some cs, some c => if c ∈ cs then none else some (cs ++ [c])
  | _, _ => none

def letAll (ss : List ByteArray) : Option (List UInt8) := ss.foldl letStep (some [])
def lettersOf (ss : List ByteArray) : Option (List UInt8) := if 1 ≤ ss.length ∧ ss.length ≤ 3 then letAll ss else none

theorem letStep_no (acc : Option (List UInt8)) {s : ByteArray} (h : letOne s.data.toList = none) : letStep acc s = none := by
  unfold letStep; rw [h]; cases acc <;> rfl
theorem letStep_twice {cs : List UInt8} {s : ByteArray} {c : UInt8} (h : letOne s.data.toList = some c) (hc : c ∈ cs) : letStep (some cs) s = none := by
  unfold letStep; rw [h]; simp [hc]
theorem letStep_yes {cs : List UInt8} {s : ByteArray} {c : UInt8} (h : letOne s.data.toList = some c) (hc : ¬ c ∈ cs) : letStep (some cs) s = some (cs ++ [c]) := by
  unfold letStep; rw [h]; simp [hc]
theorem letFold_none (ss : List ByteArray) : ss.foldl letStep none = none := by
  induction ss with
  | nil => rfl
  | cons x ss ih => exact ih
theorem letAll_none {ss : List ByteArray} {k : Nat} (h : letAll (ss.take k) = none) : letAll ss = none := by
  have : letAll (ss.take k ++ ss.drop k) = none := by
    rw [letAll, List.foldl_append]
    rw [letAll] at h
    rw [h, letFold_none]
  rwa [List.take_append_drop] at this
theorem letAll_take {ss : List ByteArray} {k : Nat} (h : k < ss.length) : letAll (ss.take (k + 1)) = letStep (letAll (ss.take k)) ss[k] := by
  rw [List.take_succ_eq_append_getElem h, letAll, List.foldl_append]; rfl

theorem letOne_some {l : List UInt8} {c : UInt8} (h : letOne l = some c) : l = [c] ∧ 97 ≤ c.toNat ∧ c.toNat ≤ 104 := by
  unfold letOne at h
  split at h
  · split at h
    · cases h; rename_i h1; exact ⟨rfl, by omega, by omega⟩
    · cases h
  · cases h
theorem letOne_bytes {s : ByteArray} {c : UInt8} (h : letOne s.data.toList = some c) : s = ⟨#[c]⟩ := by
  have := (letOne_some h).1
  apply ByteArray.ext
  apply Array.ext'
  simpa using this

structure LetsOk (ss : List ByteArray) (cs : List UInt8) : Prop where
  txt : ss = cs.map fun c => (⟨#[c]⟩ : ByteArray)
  let_ : ∀ c ∈ cs, 97 ≤ c.toNat ∧ c.toNat ≤ 104
  nodup : cs.Nodup

theorem LetsOk.nil : LetsOk [] [] := ⟨rfl, by simp, by simp⟩
theorem LetsOk.next {ss : List ByteArray} {cs : List UInt8} {s : ByteArray} {c : UInt8} (h : LetsOk ss cs) (hc : letOne s.data.toList = some c) (hn : ¬ c ∈ cs) : LetsOk (ss ++ [s]) (cs ++ [c]) where
  txt := by rw [List.map_append, h.txt, letOne_bytes hc]; simp
  let_ := fun d hd => by
    rcases List.mem_append.1 hd with e | e
    · exact h.let_ d e
    · simp at e; subst e; exact (letOne_some hc).2
  nodup := by
    rw [List.nodup_append]
    exact ⟨h.nodup, by simp, fun a ha b hb e => by simp at hb; subst hb; exact hn (e ▸ ha)⟩

theorem letAll_ok : ∀ (n : Nat) (ss : List ByteArray) (cs : List UInt8), ss.length = n → letAll ss = some cs → LetsOk ss cs
  | 0, ss, cs, hn, h => by
    have : ss = [] := List.length_eq_zero_iff.1 hn
    subst this
    cases h
    exact .nil
  | n + 1, ss, cs, hn, h => by
    have e : ss = ss.take n ++ [ss[n]] := by rw [← List.take_succ_eq_append_getElem (by omega), List.take_of_length_le (by omega)]
    have h2 : letAll (ss.take (n + 1)) = some cs := by rw [List.take_of_length_le (by omega)]; exact h
    rw [letAll_take (by omega)] at h2
    cases ha : letAll (ss.take n) with
    | none => rw [ha] at h2; cases h2
    | some ds =>
      have ih := letAll_ok n (ss.take n) ds (by rw [List.length_take]; omega) ha
      rw [ha] at h2
      cases ho : letOne (ss[n]).data.toList with
      | none => rw [letStep_no _ ho] at h2; cases h2
      | some c =>
        by_cases hc : c ∈ ds
        · rw [letStep_twice ho hc] at h2; cases h2
        · rw [letStep_yes ho hc] at h2
          cases h2
          rw [e]
          exact ih.next ho hc

/-- The quadratic trees for letters, the greater ones first. -/
def quadsOf (ss : List ByteArray) : Option (List T) := (lettersOf ss).map fun cs => downT (quadAll cs)

theorem lettersOf_ok {ss : List ByteArray} {cs : List UInt8} (h : lettersOf ss = some cs) : LetsOk ss cs ∧ 1 ≤ cs.length ∧ cs.length ≤ 3 := by
  unfold lettersOf at h
  split at h
  · have := letAll_ok _ ss cs rfl h
    have e : ss.length = cs.length := by rw [this.txt, List.length_map]
    exact ⟨this, by omega, by omega⟩
  · cases h

theorem quadsOf_ok {ss : List ByteArray} {ts : List T} (h : quadsOf ss = some ts) : ts.length ≤ 18 ∧ (∀ t ∈ ts, t.wf ∧ t.leaves = 3 ∧ t.nodes = 2) ∧ ts.Pairwise (fun a b => 0 < ordT a b) := by
  unfold quadsOf at h
  cases hl : lettersOf ss with
  | none => rw [hl] at h; cases h
  | some cs =>
    rw [hl] at h
    cases h
    obtain ⟨h1, h2, h3⟩ := lettersOf_ok hl
    have hw := quad_wf h1.let_
    refine ⟨?_, fun t ht => hw t (downT_mem ht), downT_desc (fun t ht => (hw t ht).1)⟩
    have a := downT_length_le (quadAll cs)
    have b : (quadAll cs).length = 2 * cs.length * cs.length := quadRows_length cs cs
    have c : 2 * cs.length * cs.length ≤ 2 * 3 * 3 := Nat.mul_le_mul (by omega) h3
    show (downT (quadAll cs)).length ≤ 18
    omega

end Go.Proofs.Ytapobhnhnldlkaa
