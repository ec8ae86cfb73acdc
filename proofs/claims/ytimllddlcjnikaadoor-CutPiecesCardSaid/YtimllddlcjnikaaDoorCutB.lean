/- The walks of Clone, Split; few, small; the page's example. -/
import Derived.Test.YtimllddlcjnikaaDoorCutA
import Derived.Test.YtimllddlcjnikaaDoorShelf
namespace Go.Proofs.YtimllddlcjnikaaDoor
open Go.RowKit

theorem clone_any (s : ByteArray) (hs : s.size ≤ 281474976710656) (w : World) :
    Calls Tryd.prog 30 #[.string s] w fun e w' => e = .returned (.string s) ∧ Below w.heap.size w w' := by
  have C := Tryd.stringslite_Clone s w hs
  go_enter Tryd.func30, Tryd.ntmps30
  go_wp2_with fail
  refine C.mono ?_
  rintro e w1 ⟨rfl, hb⟩
  go_wp2
  go_ret
  exact ⟨rfl, hb⟩

/-- A slice that has room for what it holds. -/
def CapOk (v : Value) : Prop := ∀ p n c, v = .slice p n c → n ≤ c

theorem own_cap {w : World} {base : Nat} {e : TypeId} {v : Value} {n : Nat} {xs : List Value} (h : w.ownsRow base e 1 v n xs) : CapOk v := by
  intro p m c hv
  rcases h with ⟨_, ⟨rfl, h0⟩ | ⟨g', cap', cur, rfl, hbg, hrow, hn', hcap, hcs, htake⟩⟩
  · cases hv; omega
  · cases hv; omega

set_option maxRecDepth 100000 in
set_option maxHeartbeats 4000000 in
theorem splitc_cap (s : ByteArray) (hs : s.size ≤ 1000000) (C : Array Value) (a b c d : Int) (hC : IsConf C a b c d) (w : World) (hT : TabAt w) :
    Calls Tryd.prog 15 #[.string s, .agg C] w fun e w' => ∃ v, e = .returned v ∧ (StrAt (strs (allL a b c d s.data.toList)) v w' ∧ CapOk v) ∧ Below w.heap.size w w' := by
  have AL := allc_any s hs C a b c d hC
  have HLI : Hid ((Tryd.prog.info? 23).map (·.size) = some C.size) := by rw [hC.size]; exact info_conf
  have gC := heap_alloc_last w (.cells C 23)
  have K0 := box_below w (.cells C 23)
  obtain ⟨i0, hi, hz0, hz1, hz2⟩ := info_of infoStr
  have HI := Lib.hid hi
  have HZ0 := Lib.hid hz0
  have HZ1 := Lib.hid hz1
  have HZ2 := Lib.hid hz2
  have CL := fun (t : ByteArray) (ht : t.size ≤ 1000000) w => clone_any t (by omega) w
  have hsum := allL_sum a b c d s.data.toList
  have hlenL := allL_len a b c d s.data.toList
  rw [data_len] at hsum hlenL
  have hfl : ∃ r, s.data.toList = (allL a b c d s.data.toList).flatten ++ r := by
    by_cases hM : MayC a b c d
    · exact ⟨[], by rw [allL_join a b c d _ hM, List.append_nil]⟩
    · exact ⟨s.data.toList, by unfold allL; rw [if_neg hM]; rfl⟩
  obtain ⟨L, hL⟩ : ∃ L, L = allL a b c d s.data.toList := ⟨_, rfl⟩
  rw [← hL] at AL hsum hlenL hfl ⊢
  obtain ⟨r0, hr0⟩ := hfl
  have HR := Lib.hid hr0
  have hml : (L.map List.length).length = L.length := by simp
  have HML := Lib.hid hml
  clear hi hz0 hz1 hz2 hL hC hr0 hml
  go_enter Tryd.func15, Tryd.ntmps15
  go_wp2_with (with_reducible refine wpList_load_row rfl _ _ rfl w.heap.size rfl 23 C (0, 0) _ gC Tryd.underlying23 rfl HLI.out ?_)
  refine (AL _ (hT.later K0)).mono ?_
  rintro e w1 ⟨v, rfl, ⟨p, cp, rfl, hc⟩, hb1⟩
  have K1 := Below.then' K0 hb1 K0.size
  have HC := Lib.hid hc
  rw [HML.out]
  clear gC K0 hb1 hc AL
  go_wp2
  go_loopw [0, 5, 12] (fun x v y wr => ∃ (i : Nat) (t : ByteArray), i ≤ L.length ∧ y = .int .i64 i ∧ x = .string t ∧ t.data.toList = (L.drop i).flatten ++ r0 ∧ wr.ownsRow w1.heap.size 9 1 v i (stL (strs (L.take i))) ∧ Below w1.heap.size w1 wr) (fun _ _ y _ => L.length - (intOf y).toNat)
  case atStart => exact ⟨0, s, Nat.zero_le _, rfl, rfl, HR.out, World.ownsRow_nil _ _ _ _, Below.refl _ _⟩
  case round =>
    obtain ⟨i, t, hi, rfl, rfl, ht, hown, K⟩ := hrel
    have HO := Lib.hid hown
    clear hown
    by_cases hlt : i < L.length
    · rcases HC.out with h | ⟨bz, off, rfl, hcell⟩
      · have := HML.out; rw [h] at this; simp at this; omega
      have k0 := hcell i (by have := HML.out; omega)
      have k1 := (K.cell (World.block_lt_of_cell? _ _ k0)).trans k0
      have hgd : (L.map List.length).getD i 0 = L[i].length := by simp [List.getD, hlt]
      rw [hgd] at k1
      have hft := flat_take L i hlt
      obtain ⟨x, hx⟩ : ∃ x, x = L[i] := ⟨_, rfl⟩
      rw [← hx] at k1 hft
      obtain ⟨q, hq⟩ : ∃ q, q = x.length := ⟨_, rfl⟩
      rw [← hq] at k1
      rw [hgd, ← hx, ← hq] at k0
      have HK0 := Lib.hid k0
      have hdl := data_len t
      rw [hft] at ht
      have hqt : q ≤ t.size := by rw [← hdl, ht]; simp only [List.length_append]; omega
      have hts : t.size ≤ s.size := by
        have h1 := congrArg List.length HR.out
        have h2 := congrArg List.length ht
        have h3 : L.flatten.length = (L.take i).flatten.length + (L.drop i).flatten.length := by rw [← List.length_append, ← List.flatten_append, List.take_append_drop]
        rw [data_len] at h1 h2
        rw [hft] at h3
        simp only [List.length_append] at h1 h2 h3
        omega
      have hcut := cut_list t q hqt
      have hdr := drop_list t q hqt
      have e1 : (t.extract 0 q) = str x := by
        rw [← str_data (t.extract 0 q), hcut.1, ht, List.append_assoc, hq, List.take_left]
      have e2 : (t.extract q t.size).data.toList = (L.drop (i + 1)).flatten ++ r0 := by
        rw [hdr.1, ht, List.append_assoc, hq, List.drop_left]
      have hsn : stL (strs (L.take (i + 1))) = stL (strs (L.take i)) ++ [.string (str x)] := by
        rw [List.take_succ_eq_append_getElem hlt, ← hx]
        simp [strs, stL]
      have HSN := Lib.hid hsn
      have HE2 := Lib.hid e2
      obtain ⟨tx, htx⟩ : ∃ tx, t.extract 0 q = tx := ⟨_, rfl⟩
      rw [htx] at e1
      rw [← e1] at HSN
      obtain ⟨t2, ht2⟩ : ∃ t2, t.extract q t.size = t2 := ⟨_, rfl⟩
      rw [ht2] at HE2
      have htxs : tx.size ≤ 1000000 := by rw [← htx, hcut.2]; omega
      have hqi : (q : Int) ≤ t.size := by omega
      have hqn : ((q : Int)).toNat = q := by omega
      have hii : (i : Int) < L.length := by omega
      have hkw : w1.heap.size ≤ wr.heap.size := K.size
      clear k0 hcell hgd hft hx hq hdl ht hcut hdr e1 e2 hsn hlt
      go_wp2_with fail
      refine (CL tx (by omega) _).mono ?_
      rintro e w3 ⟨rfl, hb3⟩
      have K3 := Below.then' K hb3 K.size
      have HO3 := Lib.hid (own_later HO.out hb3)
      have k3 := (hb3.cell (World.block_lt_of_cell? _ _ k1)).trans k1
      have hkw3 : w1.heap.size ≤ w3.heap.size := K3.size
      clear K HO k1 hkw hb3
      go_wp2_with (at_builtin; refine wpList_append_own _ rfl _ _ 31 rfl w1.heap.size 9 i0 (.string ⟨#[]⟩) 1 16 Tryd.underlying31 HI.out HZ0.out HZ1.out HZ2.out rfl (by decide) _ _ _ rfl (HO3.out.alloc _) ⟨w3.heap.size, 0, none⟩ 1 1 [.string tx] rfl rfl ?c1 ?c2 ?c3 ?c4 ?c5 ?_)
      case c1 => exact cell_one_new _ _ _
      case c2 => first | rfl | (intro u hu; simp only [List.mem_singleton] at hu; subst hu; rfl)
      case c3 => unfold maxLen; omega
      case c4 => omega
      case c5 => first | omega | (simp; omega)
      intro v' w4 hown4 hg4 _
      have h6 : Below w1.heap.size w1 w4 := (K3.alloc hkw3 _).grown hg4 (by simp; omega) (fun k hk => (HO3.out.lt k hk).1)
      have k2 : w4.cell? ⟨bz, off + i, none⟩ = some (.int .i64 q) := (h6.cell (World.block_lt_of_cell? _ _ HK0.out)).trans HK0.out
      have HO4 := Lib.hid hown4
      clear hown4 hg4 K3 HO3 k3
      go_wp2
      go_roundw
      case rel => exact ⟨i + 1, t2, by omega, by go_num, rfl, HE2.out, by rw [HSN.out]; exact HO4.out, h6⟩
      case measure => simp [intOf]; omega
    · obtain rfl : i = L.length := by omega
      have hU : StrAt (strs L) u5 wr := strAt_own (by have := HO.out; rw [List.take_length] at this; rw [strs_len]; exact this)
      have hcapok : CapOk u5 := own_cap HO.out
      have HU := Lib.hid (And.intro hU hcapok)
      clear hU HO hcapok
      go_wp2
      go_ret
      exact ⟨_, rfl, HU.out, Below.then' K1 K K1.size⟩

theorem splitc_any (s : ByteArray) (hs : s.size ≤ 1000000) (C : Array Value) (a b c d : Int) (hC : IsConf C a b c d) (w : World) (hT : TabAt w) :
    Calls Tryd.prog 15 #[.string s, .agg C] w fun e w' => ∃ v, e = .returned v ∧ StrAt (strs (allL a b c d s.data.toList)) v w' ∧ Below w.heap.size w w' :=
  (splitc_cap s hs C a b c d hC w hT).mono fun _ _ ⟨v, h1, h2, h3⟩ => ⟨v, h1, h2.1, h3⟩

end Go.Proofs.YtimllddlcjnikaaDoor
