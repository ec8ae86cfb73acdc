/- Clone, SortFunc: the walks and the library's contract at fingerprints. -/
import Derived.Test.YtaajadmaamjebaaHC
import Derived.Test.YtaajadmaamjebaaLay
import Derived.Shelf.SlSortCmp.NoneTotal
namespace Go.Proofs.Ytaajadmaamjebaa
open Go.RowKit Go.Sort

/-- Fingerprints as a type of their own. -/
abbrev FpT := { l : List UInt8 // l.length = 32 }
instance : Inhabited FpT := ⟨⟨zeroL, rfl⟩⟩
def encT (x : FpT) : List Value := (fpA x.1).toList
def cmpT (x y : FpT) : Int := Lib.compareBytes x.1 y.1

theorem encT_len (x : FpT) : (encT x).length = 32 := by unfold encT; rw [fpL_len]; exact x.2
theorem encT_one (x : FpT) : ∀ v ∈ encT x, v.oneCell' = true := fun v hv => flatL_one' [x.1] v (by rw [flatL_one]; exact hv)
theorem ltT (x y : FpT) : ltOf cmpT x y = ltB x.1 y.1 := ltB_compare x.1 y.1 (by rw [x.2, y.2])

theorem swoT : SWO (ltOf cmpT) where
  irrefl x := by rw [ltT]; exact ltB_irrefl _
  trans x y z h1 h2 := by rw [ltT] at *; exact ltB_trans _ _ _ h1 h2
  ntrans x y z h1 h2 := by
    rw [ltT] at *
    cases h3 : ltB x.1 z.1 with
    | false => rfl
    | true =>
      by_cases hxy : x.1 = y.1
      · rw [hxy] at h3; rw [h3] at h2; cases h2
      · have h4 := ltB_total x.1 y.1 (by rw [x.2, y.2]) h1 hxy
        rw [ltB_trans _ _ _ h4 h3] at h2; cases h2

def toT : (ls : List (List UInt8)) → All32 ls → List FpT
  | [], _ => []
  | l :: ls, h => ⟨l, h l (List.mem_cons_self ..)⟩ :: toT ls (fun x hx => h x (List.mem_cons_of_mem _ hx))

theorem toT_map : ∀ (ls : List (List UInt8)) (h : All32 ls), (toT ls h).map (fun x => x.1) = ls
  | [], _ => rfl
  | l :: ls, h => by
    have ih := toT_map ls (fun x hx => h x (List.mem_cons_of_mem _ hx))
    show l :: (toT ls _).map (fun x => x.1) = l :: ls
    rw [ih]
theorem all32_map (d : List FpT) : All32 (d.map (·.1)) := fun l hl => by
  obtain ⟨x, _, rfl⟩ := List.mem_map.1 hl
  exact x.2

theorem rowA_rest (ls : List (List UInt8)) (rest : List Value) (h : All32 ls) (k : Nat) (hk : ls.length * 32 ≤ k) : (rowA ls rest)[k]? = rest[k - ls.length * 32]? := by
  unfold rowA
  rw [List.getElem?_toArray, List.getElem?_append_right (by rw [flatL_len ls h]; exact hk), flatL_len ls h]

/-- What the library's flat row holds. -/
theorem flat_cell (d : List FpT) (rest : List Value) (t : Nat) (ht : t < d.length * 32) : (rowA (d.map (·.1)) rest)[t]? = some ((flatK encT 32 d.toArray)[t]!) := by
  have hq : t / 32 < d.length := by omega
  have hd : t = t / 32 * 32 + t % 32 := by omega
  have e1 := rowA_cell (d.map (·.1)) rest (all32_map d) (t / 32) (t % 32) (by rw [List.length_map]; exact hq) (by omega)
  rw [← hd] at e1
  rw [e1, get_flatK _ _ _ t (by simpa using ht)]
  have e2 : (d.toArray)[t / 32]! = d[t / 32] := by rw [getElem!_pos _ _ (by simpa using hq)]; simp
  rw [e2, List.getElem_map]
  have hl : t % 32 < (encT d[t / 32]).length := by rw [encT_len]; omega
  rw [getElem!_pos (encT d[t / 32]) (t % 32) hl, ← Array.getElem?_toList]
  exact List.getElem?_eq_getElem hl

theorem holds_row {g : Nat} {d : List FpT} {rest : List Value} {w : World} (h : RowAt g (d.map (·.1)) rest w) : HoldsK encT 32 w g 0 d.toArray := by
  intro j hj
  rw [size_flatK] at hj
  rw [Nat.zero_add]
  refine ⟨?_, frozen_of_row _ _ _ _ _ h.2⟩
  rw [cell_of_row _ _ _ _ _ _ h.2, flat_cell d rest j (by simpa using hj)]
  rfl

theorem row_sorted {g : Nat} {d d2 : List FpT} {rest : List Value} {w : World} (h : RowAt g (d.map (·.1)) rest w) (hd : d2.length = d.length) (n : Nat) (os : Array Obj) :
    RowAt g (d2.map (·.1)) rest (sortWorldK encT 32 w g 0 n d2.toArray os) ∧ w.grownBy (sortWorldK encT 32 w g 0 n d2.toArray os) (some g) := by
  have hg := h.lt
  have e0 : ∀ k, k < w.heap.size → (sortWorldK encT 32 w g 0 n d2.toArray os).heap[k]? = (mapBlock (Sort.ahead w n) g (putCells id 0 (flatK encT 32 d2.toArray))).heap[k]? := fun k hk => by
    unfold sortWorldK putRowK putRow
    rw [heap_grow_old _ _ (by simpa [mapBlock] using hk)]
  refine ⟨⟨all32_map d2, ?_⟩, ⟨rfl, rfl, rfl, ?_, fun k hk hne => ?_⟩⟩
  · rw [e0 g hg]
    show ((w.heap.modify g (onCells _)))[g]? = _
    rw [Array.getElem?_modify, if_pos rfl, h.2]
    simp only [Option.map_some, onCells]
    congr 2
    apply Array.ext_getElem?
    intro k
    unfold putCells
    rw [Array.getElem?_mapIdx]
    by_cases hk : k < d2.length * 32
    · rw [flat_cell d2 rest k hk, flat_cell d rest k (by rw [← hd]; exact hk)]
      simp only [Option.map_some, id]
      rw [if_pos (by rw [size_flatK]; simp; omega), Nat.sub_zero]
    · rw [rowA_rest _ rest (all32_map d2) k (by rw [List.length_map]; omega), rowA_rest _ rest (all32_map d) k (by rw [List.length_map]; omega), List.length_map, List.length_map, hd]
      cases rest[k - d.length * 32]? with
      | none => rfl
      | some x =>
        simp only [Option.map_some]
        rw [if_neg (by rw [size_flatK]; simp; omega)]
  · unfold sortWorldK putRowK putRow
    rw [size_grow]
    show w.heap.size ≤ (w.heap.modify g _).size + _
    rw [Array.size_modify]
    omega
  · rw [e0 k hk]
    show ((w.heap.modify g (onCells _)))[k]? = _
    rw [Array.getElem?_modify, if_neg (fun e => hne (by rw [e]))]

theorem cmpLays (blk off size : Nat) (w : World) : CmpLays Try.prog 42 #[] encT 32 cmpT blk off size w := by
  intro m os dk _ x y
  have C := compare_any x.1 y.1 x.2 y.2 (sortWorldK encT 32 w blk off m dk os)
  have e : ∀ z : FpT, (encT z).toArray = fpA z.1 := fun z => by unfold encT; simp
  rw [e, e]
  refine C.mono ?_
  rintro e w' ⟨he, q, hw⟩
  refine ⟨he, q, #[.cells (fpA x.1) 47, .cells (fpA y.1) 47], ?_⟩
  rw [hw, alloc_eq_grow, alloc_eq_grow, grow_grow]
  rfl

/-- slices.SortFunc of fingerprints. -/
theorem sort_any (B : Nat) (ls : List (List UInt8)) (hs : ls.length ≤ 1000000) (v : Value) (w : World) (h : OwnFps B ls v w) :
    Calls Try.prog 41 #[v, .func (.func 42) #[] #[]] w fun e w' => e = .returned (.tuple #[]) ∧
      ∃ ms : List (List UInt8), ms.Perm ls ∧ ms.Pairwise (fun a b => ltB b a = false) ∧ OwnFps B ms v w' ∧ w.grownBy w' v.ownBlock := by
  have hnone : ∀ p c, Calls Try.prog 41 #[.slice p 0 c, .func (.func 42) #[] #[]] w fun e w' => e = .returned (.tuple #[]) ∧ w' = w :=
    fun p c => AnyF.slices_SortFunc_none Try.sortFp p c _ w
  rcases h.parts with ⟨rfl, rfl⟩ | ⟨g, cap, rest, rfl, hB, hr, hc, hm, hsz⟩
  · refine (hnone none 0).mono ?_
    rintro e w' ⟨he, rfl⟩
    exact ⟨he, [], List.Perm.refl _, List.Pairwise.nil, h, grown_same _ _⟩
  · have hl : (toT ls hr.1).map (·.1) = ls := toT_map ls hr.1
    generalize toT ls hr.1 = d at hl
    subst hl
    simp only [List.length_map] at hs hc hsz ⊢
    have hcon := AnyQ.slices_SortFunc_total (P := Try.prog) Try.sortFp 32 Try.isAgg47 Try.sizeOf47 encT encT_len encT_one cmpT swoT 42 #[] g 0 cap d.toArray w (enters_of Try.func42 (by kernel_rfl) rfl)
      (cmpLays g 0 d.toArray.size w) (holds_row hr) hr.lt (by simp; omega) (fun x y h1 h2 => by
        rw [ltT] at h1 h2
        apply Subtype.ext
        by_cases hxy : x.1 = y.1
        · exact hxy
        · rw [ltB_total x.1 y.1 (by rw [x.2, y.2]) h1 hxy] at h2; cases h2)
    rw [show d.toArray.size = d.length from List.size_toArray] at hcon
    change Calls Try.prog 41 _ _ _ at hcon
    refine hcon.mono ?_
    rintro e w' ⟨he, n, os, rfl⟩
    have hp : (d.mergeSort fun x y => !ltOf cmpT y x).Perm d := List.mergeSort_perm _ _
    have hpw := List.pairwise_mergeSort (le := fun x y : FpT => !ltOf cmpT y x) (fun a b c h1 h2 => by
        simp only [Bool.not_eq_true'] at h1 h2 ⊢
        exact swoT.ntrans _ _ _ h2 h1) (fun a b => by
        simp only [Bool.or_eq_true, Bool.not_eq_true']
        rw [ltT, ltT]
        cases h1 : ltB b.1 a.1 with
        | false => exact Or.inl rfl
        | true => exact Or.inr (ltB_asymm _ _ h1)) d
    obtain ⟨d2, hd2⟩ : ∃ d2, d2 = d.mergeSort fun x y => !ltOf cmpT y x := ⟨_, rfl⟩
    rw [← hd2] at hp hpw
    have e2 : ((d.toArray.toList.mergeSort fun x y => !ltOf cmpT y x).toArray) = d2.toArray := by rw [hd2]
    rw [e2]
    have R := row_sorted hr hp.length_eq n os
    refine ⟨he, d2.map (·.1), hp.map _, ?_, ?_, R.2⟩
    · rw [List.pairwise_map]
      refine hpw.imp fun {a b} hab => ?_
      rw [← ltT]
      simpa using hab
    · have := OwnFps.of_row (cap := cap) hB R.1 (by rw [List.length_map, hp.length_eq]; exact hc) hm (by rw [List.length_map, hp.length_eq]; exact hsz)
      rwa [List.length_map, hp.length_eq] at this

end Go.Proofs.Ytaajadmaamjebaa
