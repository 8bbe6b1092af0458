/-
  Heaps in lists, as container/heap keeps them: up and down as plain functions, and what they leave.
-/
namespace Go.Proofs.Ytmmgpifidlekaaa.Hp

/-- who (the first), and when (the second) -/
abbrev Ent := Int × Int

/-- who comes first -/
def el (a b : Ent) : Bool := decide (a.2 < b.2) || (decide (a.2 = b.2) && decide (a.1 < b.1))

theorem el_iff {a b : Ent} : el a b = true ↔ a.2 < b.2 ∨ (a.2 = b.2 ∧ a.1 < b.1) := by simp [el]
theorem el_irrefl (a : Ent) : el a a = false := by simp [el]
theorem el_asymm {a b : Ent} (h : el a b = true) : ¬ el b a = true := by rw [el_iff] at *; omega
theorem el_trans {a b c : Ent} (h : el a b = true) (k : el b c = true) : el a c = true := by rw [el_iff] at *; omega
theorem el_nt {a b c : Ent} (h : ¬ el a b = true) (k : ¬ el b c = true) : ¬ el a c = true := by rw [el_iff] at *; omega
theorem el_lt_nt {a b c : Ent} (h : el a b = true) (k : ¬ el c b = true) : ¬ el c a = true := by rw [el_iff] at *; omega
theorem el_eq {a b : Ent} (h : ¬ el a b = true) (k : ¬ el b a = true) : a = b := by
  rw [el_iff] at *
  have h1 : a.1 = b.1 := by omega
  have h2 : a.2 = b.2 := by omega
  cases a; cases b; simp_all

def gt (l : List Ent) (i : Nat) : Ent := l.getD i (0, 0)
theorem gt_of {l : List Ent} {i : Nat} (h : i < l.length) : l[i]? = some (gt l i) := by simp [gt, h]
theorem gt_mem {l : List Ent} {i : Nat} (h : i < l.length) : gt l i ∈ l := List.mem_of_getElem? (gt_of h)
theorem gt_get {l : List Ent} {i : Nat} (h : i < l.length) : gt l i = l[i] := by simp [gt, h]

/-- two change places -/
def swp (l : List Ent) (i j : Nat) : List Ent := (l.set i (gt l j)).set j (gt l i)
theorem swp_len (l : List Ent) (i j : Nat) : (swp l i j).length = l.length := by simp [swp]
theorem swp_perm {l : List Ent} {i j : Nat} (hi : i < l.length) (hj : j < l.length) : (swp l i j).Perm l := by
  unfold swp; rw [gt_get hi, gt_get hj]; exact List.set_set_perm hi hj
theorem gt_swp {l : List Ent} {i j : Nat} (hi : i < l.length) (hj : j < l.length) (c : Nat) :
    gt (swp l i j) c = if c = j then gt l i else if c = i then gt l j else gt l c := by
  unfold swp
  by_cases h1 : c = j
  · subst h1; simp [gt, hj]
  · by_cases h2 : c = i
    · subst h2; simp [gt, h1, Ne.symm h1, hi]
    · simp [gt, h1, h2, Ne.symm h1, Ne.symm h2]
theorem gt_swp_i {l : List Ent} {i j : Nat} (hi : i < l.length) (hj : j < l.length) (h : i ≠ j) : gt (swp l i j) i = gt l j := by rw [gt_swp hi hj, if_neg h, if_pos rfl]
theorem gt_swp_j {l : List Ent} {i j : Nat} (hi : i < l.length) (hj : j < l.length) : gt (swp l i j) j = gt l i := by rw [gt_swp hi hj, if_pos rfl]
theorem gt_swp_o {l : List Ent} {i j c : Nat} (hi : i < l.length) (hj : j < l.length) (h : c ≠ i) (k : c ≠ j) : gt (swp l i j) c = gt l c := by rw [gt_swp hi hj, if_neg k, if_neg h]

/-- from a place upwards -/
def hup (l : List Ent) (j : Nat) : List Ent :=
  if _h : j = 0 then l else if el (gt l j) (gt l ((j - 1) / 2)) then hup (swp l ((j - 1) / 2) j) ((j - 1) / 2) else l
termination_by j
decreasing_by omega

theorem hup_zero (l : List Ent) : hup l 0 = l := by rw [hup]; simp
theorem hup_stop {l : List Ent} {j : Nat} (h : el (gt l j) (gt l ((j - 1) / 2)) = false) : hup l j = l := by rw [hup]; simp [h]
theorem hup_go {l : List Ent} {j : Nat} (h0 : j ≠ 0) (h : el (gt l j) (gt l ((j - 1) / 2)) = true) : hup l j = hup (swp l ((j - 1) / 2) j) ((j - 1) / 2) := by
  conv => lhs; rw [hup]
  simp [h, h0]

/-- the child that comes first -/
def kid (l : List Ent) (i n : Nat) : Nat := if 2 * i + 2 < n ∧ el (gt l (2 * i + 2)) (gt l (2 * i + 1)) = true then 2 * i + 2 else 2 * i + 1
theorem kid_or (l : List Ent) (i n : Nat) : kid l i n = 2 * i + 1 ∨ (kid l i n = 2 * i + 2 ∧ 2 * i + 2 < n) := by
  unfold kid; split
  · rename_i h; exact .inr ⟨rfl, h.1⟩
  · exact .inl rfl
theorem kid_lt {l : List Ent} {i n : Nat} (h : 2 * i + 1 < n) : kid l i n < n := by rcases kid_or l i n with h' | h' <;> omega
theorem kid_gt (l : List Ent) (i n : Nat) : i < kid l i n := by rcases kid_or l i n with h' | h' <;> omega
theorem kid_up (l : List Ent) (i n : Nat) : (kid l i n - 1) / 2 = i := by rcases kid_or l i n with h' | h' <;> omega
theorem kid_least {l : List Ent} {i n c : Nat} (h0 : 0 < c) (hc : c < n) (hp : (c - 1) / 2 = i) : ¬ el (gt l c) (gt l (kid l i n)) = true := by
  unfold kid
  split
  · rename_i h
    have : c = 2 * i + 1 ∨ c = 2 * i + 2 := by omega
    rcases this with rfl | rfl
    · exact el_asymm h.2
    · simp [el_irrefl]
  · rename_i h
    have : c = 2 * i + 1 ∨ c = 2 * i + 2 := by omega
    rcases this with rfl | rfl
    · simp [el_irrefl]
    · exact fun h' => h ⟨hc, h'⟩

/-- from a place downwards, among the first n; and where it ends -/
def hdn (l : List Ent) (i n : Nat) : List Ent × Nat :=
  if _h : 2 * i + 1 < n then if el (gt l (kid l i n)) (gt l i) then hdn (swp l i (kid l i n)) (kid l i n) n else (l, i) else (l, i)
termination_by n - i
decreasing_by have := kid_gt l i n; omega

theorem hdn_none {l : List Ent} {i n : Nat} (h : n ≤ 2 * i + 1) : hdn l i n = (l, i) := by rw [hdn, dif_neg (by omega)]
theorem hdn_stop {l : List Ent} {i n : Nat} (h : el (gt l (kid l i n)) (gt l i) = false) : hdn l i n = (l, i) := by rw [hdn]; simp [h]
theorem hdn_go {l : List Ent} {i n : Nat} (hn : 2 * i + 1 < n) (h : el (gt l (kid l i n)) (gt l i) = true) : hdn l i n = hdn (swp l i (kid l i n)) (kid l i n) n := by
  conv => lhs; rw [hdn]
  simp [h, hn]

theorem hup_perm (j : Nat) : ∀ l : List Ent, j < l.length → (hup l j).Perm l := by
  induction j using Nat.strongRecOn with
  | ind j ih =>
    intro l hj
    by_cases h0 : j = 0
    · subst h0; rw [hup_zero]
    · cases h : el (gt l j) (gt l ((j - 1) / 2))
      · rw [hup_stop h]
      · rw [hup_go h0 h]
        exact (ih _ (by omega) _ (by rw [swp_len]; omega)).trans (swp_perm (by omega) hj)
theorem hup_len {j : Nat} {l : List Ent} (h : j < l.length) : (hup l j).length = l.length := (hup_perm j l h).length_eq
theorem hup_out (j : Nat) : ∀ (l : List Ent) (c : Nat), j < l.length → j < c → gt (hup l j) c = gt l c := by
  induction j using Nat.strongRecOn with
  | ind j ih =>
    intro l c hj hc
    by_cases h0 : j = 0
    · subst h0; rw [hup_zero]
    · cases h : el (gt l j) (gt l ((j - 1) / 2))
      · rw [hup_stop h]
      · rw [hup_go h0 h, ih _ (by omega) _ _ (by rw [swp_len]; omega) (by omega), gt_swp_o (by omega) hj (by omega) (by omega)]

theorem hdn_all (m : Nat) : ∀ (l : List Ent) (i n : Nat), n - i ≤ m → n ≤ l.length → i < l.length →
    (hdn l i n).1.Perm l ∧ i ≤ (hdn l i n).2 ∧ ∀ c, n ≤ c → c ≠ i → gt (hdn l i n).1 c = gt l c := by
  induction m with
  | zero => intro l i n hm hn hi; rw [hdn_none (by omega)]; exact ⟨.refl _, Nat.le_refl _, fun _ _ _ => rfl⟩
  | succ m ih =>
    intro l i n hm hn hi
    by_cases h1 : 2 * i + 1 < n
    · cases h : el (gt l (kid l i n)) (gt l i)
      · rw [hdn_stop h]; exact ⟨.refl _, Nat.le_refl _, fun _ _ _ => rfl⟩
      · rw [hdn_go h1 h]
        have k1 := kid_gt l i n
        have k2 := kid_lt (l := l) h1
        obtain ⟨a, b, c⟩ := ih (swp l i (kid l i n)) (kid l i n) n (by omega) (by rw [swp_len]; omega) (by rw [swp_len]; omega)
        exact ⟨a.trans (swp_perm hi (by omega)), by omega, fun d hd hdi => by rw [c d hd (by omega), gt_swp_o hi (by omega) hdi (by omega)]⟩
    · rw [hdn_none (by omega)]; exact ⟨.refl _, Nat.le_refl _, fun _ _ _ => rfl⟩
theorem hdn_perm {l : List Ent} {i n : Nat} (hn : n ≤ l.length) (hi : i < l.length) : (hdn l i n).1.Perm l := (hdn_all _ l i n (Nat.le_refl _) hn hi).1
theorem hdn_len {l : List Ent} {i n : Nat} (hn : n ≤ l.length) (hi : i < l.length) : (hdn l i n).1.length = l.length := (hdn_perm hn hi).length_eq
theorem hdn_ge {l : List Ent} {i n : Nat} (hn : n ≤ l.length) (hi : i < l.length) : i ≤ (hdn l i n).2 := (hdn_all _ l i n (Nat.le_refl _) hn hi).2.1
theorem hdn_out {l : List Ent} {i n : Nat} (hn : n ≤ l.length) (hi : i < l.length) {c : Nat} (hc : n ≤ c) (hci : c ≠ i) : gt (hdn l i n).1 c = gt l c := (hdn_all _ l i n (Nat.le_refl _) hn hi).2.2 c hc hci
theorem hdn_lt (m : Nat) : ∀ (l : List Ent) (i n : Nat), n - i ≤ m → i < n → (hdn l i n).2 < n := by
  induction m with
  | zero => intro l i n hm hi; omega
  | succ m ih =>
    intro l i n hm hi
    by_cases h1 : 2 * i + 1 < n
    · cases h : el (gt l (kid l i n)) (gt l i)
      · rw [hdn_stop h]; exact hi
      · rw [hdn_go h1 h]
        have k1 := kid_gt l i n
        have k2 := kid_lt (l := l) h1
        exact ih _ _ _ (by omega) k2
    · rw [hdn_none (by omega)]; exact hi

/-- nobody among the first n comes ahead of the one above -/
def Hp (l : List Ent) (n : Nat) : Prop := ∀ c, 0 < c → c < n → ¬ el (gt l c) (gt l ((c - 1) / 2)) = true
/-- .. but for the one at j, who may come ahead -/
def Up (l : List Ent) (n j : Nat) : Prop := (∀ c, 0 < c → c < n → c ≠ j → ¬ el (gt l c) (gt l ((c - 1) / 2)) = true) ∧
  ∀ c, 0 < c → c < n → (c - 1) / 2 = j → 0 < j → ¬ el (gt l c) (gt l ((j - 1) / 2)) = true
/-- .. but for the one at i, who may come ahead, or behind -/
def Dn (l : List Ent) (n i : Nat) : Prop := (∀ c, 0 < c → c < n → c ≠ i → (c - 1) / 2 ≠ i → ¬ el (gt l c) (gt l ((c - 1) / 2)) = true) ∧
  ∀ c, 0 < c → c < n → (c - 1) / 2 = i → 0 < i → ¬ el (gt l c) (gt l ((i - 1) / 2)) = true
/-- .. who may come behind -/
def Dw (l : List Ent) (n i : Nat) : Prop := (∀ c, 0 < c → c < n → (c - 1) / 2 ≠ i → ¬ el (gt l c) (gt l ((c - 1) / 2)) = true) ∧
  ∀ c, 0 < c → c < n → (c - 1) / 2 = i → 0 < i → ¬ el (gt l c) (gt l ((i - 1) / 2)) = true

theorem Dw.dn {l : List Ent} {n i : Nat} (h : Dw l n i) : Dn l n i := ⟨fun c a b _ d => h.1 c a b d, h.2⟩

theorem hup_hp (j : Nat) : ∀ (l : List Ent) (n : Nat), j < n → n ≤ l.length → Up l n j → Hp (hup l j) n := by
  induction j using Nat.strongRecOn with
  | ind j ih =>
    intro l n hj hn ⟨u1, u2⟩
    by_cases h0 : j = 0
    · subst h0; rw [hup_zero]; exact fun c h1 h2 => u1 c h1 h2 (by omega)
    · cases h : el (gt l j) (gt l ((j - 1) / 2))
      · rw [hup_stop h]
        intro c h1 h2
        by_cases hc : c = j
        · subst hc; simp [h]
        · exact u1 c h1 h2 hc
      · rw [hup_go h0 h]
        have hi : (j - 1) / 2 < l.length := by omega
        have hjl : j < l.length := by omega
        refine ih _ (by omega) _ n (by omega) (by rw [swp_len]; omega) ⟨fun c h1 h2 hc => ?_, fun c h1 h2 hp hi0 => ?_⟩
        · by_cases hcj : c = j
          · subst hcj
            rw [gt_swp_j hi hjl, gt_swp_i hi hjl (by omega)]
            exact el_asymm h
          · rw [gt_swp_o hi hjl hc hcj]
            by_cases hp : (c - 1) / 2 = (j - 1) / 2
            · rw [hp, gt_swp_i hi hjl (by omega)]
              have := u1 c h1 h2 hcj
              rw [hp] at this
              exact el_lt_nt h this
            · by_cases hq : (c - 1) / 2 = j
              · rw [hq, gt_swp_j hi hjl]
                exact u2 c h1 h2 hq (by omega)
              · rw [gt_swp_o hi hjl hp hq]
                exact u1 c h1 h2 hcj
        · rw [gt_swp_o (c := ((j - 1) / 2 - 1) / 2) hi hjl (by omega) (by omega)]
          have hii := u1 ((j - 1) / 2) hi0 (by omega) (by omega)
          by_cases hcj : c = j
          · subst hcj; rw [gt_swp_j hi hjl]; exact hii
          · rw [gt_swp_o hi hjl (by omega) hcj]
            have := u1 c h1 h2 hcj
            rw [hp] at this
            exact el_nt this hii

theorem dn_step {l : List Ent} {n i : Nat} (hn : n ≤ l.length) (h1 : 2 * i + 1 < n) (h : el (gt l (kid l i n)) (gt l i) = true) (hd : Dn l n i) : Dw (swp l i (kid l i n)) n (kid l i n) := by
  obtain ⟨d1, d2⟩ := hd
  have k1 := kid_gt l i n
  have k2 := kid_lt (l := l) h1
  have k3 := kid_up l i n
  have k4 : ∀ c, 0 < c → c < n → (c - 1) / 2 = i → ¬ el (gt l c) (gt l (kid l i n)) = true := fun c => kid_least
  generalize kid l i n = k at *
  have hi : i < l.length := by omega
  have hk : k < l.length := by omega
  refine ⟨fun c c1 c2 c3 => ?_, fun c c1 c2 c3 c4 => ?_⟩
  · by_cases hck : c = k
    · subst hck
      rw [gt_swp_j hi hk, k3, gt_swp_i hi hk (by omega)]
      exact el_asymm h
    · by_cases hci : c = i
      · subst hci
        rw [gt_swp_i hi hk (by omega), gt_swp_o hi hk (by omega) (by omega)]
        exact d2 k (by omega) k2 k3 c1
      · rw [gt_swp_o hi hk hci hck]
        by_cases hp : (c - 1) / 2 = i
        · rw [hp, gt_swp_i hi hk (by omega)]
          exact k4 c c1 c2 hp
        · rw [gt_swp_o hi hk hp c3]
          exact d1 c c1 c2 hci hp
  · rw [k3, gt_swp_i hi hk (by omega), gt_swp_o hi hk (by omega) (by omega)]
    have := d1 c c1 c2 (by omega) (by omega)
    rw [c3] at this
    exact this

theorem dw_hp (m : Nat) : ∀ (l : List Ent) (i n : Nat), n - i ≤ m → n ≤ l.length → i < l.length → Dw l n i → Hp (hdn l i n).1 n := by
  induction m with
  | zero => intro l i n hm hn hi hd; rw [hdn_none (by omega)]; exact fun c c1 c2 => hd.1 c c1 c2 (by omega)
  | succ m ih =>
    intro l i n hm hn hi hd
    by_cases h1 : 2 * i + 1 < n
    · cases h : el (gt l (kid l i n)) (gt l i)
      · rw [hdn_stop h]
        intro c c1 c2
        by_cases hp : (c - 1) / 2 = i
        · rw [hp]; exact el_nt (kid_least c1 c2 hp) (by simp [h])
        · exact hd.1 c c1 c2 hp
      · rw [hdn_go h1 h]
        have k1 := kid_gt l i n
        have k2 := kid_lt (l := l) h1
        exact ih _ _ n (by omega) (by rw [swp_len]; omega) (by rw [swp_len]; omega) (dn_step hn h1 h hd.dn)
    · rw [hdn_none (by omega)]; exact fun c c1 c2 => hd.1 c c1 c2 (by omega)

/-- behind 'down': either it went down, and all is well, or it stood, and may go up -/
theorem dn_hp {l : List Ent} {i n : Nat} (hn : n ≤ l.length) (hd : Dn l n i) :
    ((hdn l i n).2 = i ∧ (hdn l i n).1 = l ∧ Up l n i) ∨ (i < (hdn l i n).2 ∧ Hp (hdn l i n).1 n) := by
  by_cases h1 : 2 * i + 1 < n
  · cases h : el (gt l (kid l i n)) (gt l i)
    · rw [hdn_stop h]
      refine .inl ⟨rfl, rfl, fun c c1 c2 c3 => ?_, hd.2⟩
      by_cases hp : (c - 1) / 2 = i
      · rw [hp]; exact el_nt (kid_least c1 c2 hp) (by simp [h])
      · exact hd.1 c c1 c2 c3 hp
    · rw [hdn_go h1 h]
      have k1 := kid_gt l i n
      have k2 := kid_lt (l := l) h1
      exact .inr ⟨Nat.lt_of_lt_of_le k1 (hdn_ge (by rw [swp_len]; omega) (by rw [swp_len]; omega)), dw_hp _ _ _ n (Nat.le_refl _) (by rw [swp_len]; omega) (by rw [swp_len]; omega) (dn_step hn h1 h hd)⟩
  · rw [hdn_none (by omega)]
    exact .inl ⟨rfl, rfl, fun c c1 c2 c3 => hd.1 c c1 c2 c3 (by omega), hd.2⟩

/-- down, and up if it stood: the one at i may have come ahead or behind -/
def fix (l : List Ent) (i n : Nat) : List Ent := if i < (hdn l i n).2 then (hdn l i n).1 else hup (hdn l i n).1 i
theorem fix_hp {l : List Ent} {i n : Nat} (hn : n ≤ l.length) (hi : i < n) (hd : Dn l n i) : Hp (fix l i n) n := by
  unfold fix
  rcases dn_hp hn hd with ⟨a, b, c⟩ | ⟨a, b⟩
  · rw [if_neg (by omega), b]; exact hup_hp i l n hi hn c
  · rw [if_pos a]; exact b
theorem fix_perm {l : List Ent} {i n : Nat} (hn : n ≤ l.length) (hi : i < n) : (fix l i n).Perm l := by
  have h := hdn_perm (l := l) (i := i) hn (by omega)
  unfold fix; split
  · exact h
  · exact (hup_perm i _ (by rw [h.length_eq]; omega)).trans h
theorem fix_out {l : List Ent} {i n c : Nat} (hn : n ≤ l.length) (hi : i < n) (hc : n ≤ c) : gt (fix l i n) c = gt l c := by
  unfold fix; split
  · exact hdn_out hn (by omega) hc (by omega)
  · rw [hup_out i _ c (by rw [hdn_len hn (by omega)]; omega) (by omega)]; exact hdn_out hn (by omega) hc (by omega)

/-- whoever is at the top comes first -/
theorem hp_top {l : List Ent} {n : Nat} (h : Hp l n) (c : Nat) : c < n → ¬ el (gt l c) (gt l 0) = true := by
  induction c using Nat.strongRecOn with
  | ind c ih =>
    intro hc
    by_cases h0 : c = 0
    · subst h0; simp [el_irrefl]
    · exact el_nt (h c (by omega) hc) (ih _ (by omega) (by omega))

/-- another one in the place of one -/
theorem dn_set {l : List Ent} {i : Nat} (hi : i < l.length) (h : Hp l l.length) (x : Ent) : Dn (l.set i x) l.length i := by
  have g : ∀ c, c ≠ i → gt (l.set i x) c = gt l c := fun c hc => by simp [gt, Ne.symm hc]
  refine ⟨fun c c1 c2 c3 c4 => ?_, fun c c1 c2 c3 c4 => ?_⟩
  · rw [g c c3, g _ c4]; exact h c c1 c2
  · rw [g c (by omega), g _ (by omega)]
    have a := h c c1 c2
    rw [c3] at a
    exact el_nt a (h i c4 hi)

/-- one more behind -/
theorem up_app {l : List Ent} (h : Hp l l.length) (x : Ent) : Up (l ++ [x]) (l.length + 1) l.length := by
  have g : ∀ c, c < l.length → gt (l ++ [x]) c = gt l c := fun c hc => by simp [gt, List.getElem?_append, hc]
  refine ⟨fun c c1 c2 c3 => ?_, fun c c1 c2 c3 c4 => by omega⟩
  rw [g c (by omega), g _ (by omega)]; exact h c c1 (by omega)

/-- the last one in the place of one, among all but the last -/
theorem dn_last {l : List Ent} {i : Nat} (hi : i + 1 < l.length) (h : Hp l l.length) : Dn (swp l i (l.length - 1)) (l.length - 1) i := by
  have h1 : i < l.length := by omega
  have h2 : l.length - 1 < l.length := by omega
  refine ⟨fun c c1 c2 c3 c4 => ?_, fun c c1 c2 c3 c4 => ?_⟩
  · rw [gt_swp_o h1 h2 c3 (by omega), gt_swp_o h1 h2 c4 (by omega)]; exact h c c1 (by omega)
  · rw [gt_swp_o h1 h2 (by omega) (by omega), gt_swp_o h1 h2 (by omega) (by omega)]
    have a := h c c1 (by omega)
    rw [c3] at a
    exact el_nt a (h i c4 h1)
theorem hp_dropLast {l : List Ent} {n : Nat} (h : Hp l n) (hn : n + 1 = l.length) : Hp l.dropLast l.dropLast.length := by
  have g : ∀ c, c < n → gt l.dropLast c = gt l c := fun c hc => by simp [gt, show c < l.length - 1 by omega, show c < l.length by omega]
  intro c c1 c2
  rw [List.length_dropLast] at c2
  rw [g c (by omega), g _ (by omega)]; exact h c c1 (by omega)
theorem hp_nil (l : List Ent) (h : l.length ≤ 1) : Hp l l.length := fun c a b => by omega
end Go.Proofs.Ytmmgpifidlekaaa.Hp
