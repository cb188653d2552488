/-
  The contract of cfg.Write.
-/
import Derived.Test.YtgoafahglajfmaaDoorWrite1
namespace Go.Proofs.YtgoafahglajfmaaDoor
open Go.RowKit
open Cg
namespace Cg
def linesT (ps : List Pd) : List UInt8 := ps.flatMap fun p => prodT p ++ [10]
theorem sym_small {t n : Int} (h : okTN t n = true) {s : Sy} (hs : okSy t n s = true) : 0 ≤ s.2 ∧ s.2 < 100 := by
  have := okTN_le h
  unfold okSy at hs
  split at hs
  · have := okN_le hs; omega
  · split at hs
    · have := okN_le hs; omega
    · cases hs
theorem prod_small {t n : Int} (h : okTN t n = true) {x : Int} {l : List Sy} (hp : chkP t n (x, l) = 0) : (0 ≤ x ∧ x < 100) ∧ l.length ≤ 8 ∧ ∀ s ∈ l, 0 ≤ s.2 ∧ s.2 < 100 := by
  obtain ⟨h1, h2, h3⟩ := chkP_zero hp
  have := okTN_le h
  have := okN_le h2
  exact ⟨⟨by omega, by simp only [] at this; omega⟩, h1, fun s hs => sym_small h (List.all_eq_true.1 h3 s hs)⟩
theorem linesT_len (t n : Int) (ps : List Pd) (h : okTN t n = true) (hp : ∀ p ∈ ps, chkP t n p = 0) : (linesT ps).length ≤ ps.length * 36 := by
  induction ps with
  | nil => simp [linesT]
  | cons p ps ih =>
    have h1 := ih fun q hq => hp q (by simp [hq])
    obtain ⟨x, l⟩ := p
    obtain ⟨k1, k2, k3⟩ := prod_small h (hp (x, l) (by simp))
    have h2 := prodT_len (x, l) (by show x.toNat < 100; omega) (fun s hs => by have := k3 s hs; omega) k2
    unfold linesT at h1 ⊢
    simp only [List.flatMap_cons, List.length_append, List.length_cons, List.length_nil]
    omega
end Cg
structure RWr (w9 : World) (bb gx : Nat) (t n : Int) (dt dn : List UInt8) (d : Nat → Bool) (x13 x14 x15 x16 x17 x18 x19 x20 x21 x22 : Value) (W : World) : Prop where
  f0 : d 0 = true → x13 = (.pointer (some ⟨gx, 0, none⟩))
  f1 : d 1 = true → x14 = (.int .i64 t)
  f2 : d 2 = true → x15 = (.string (⟨dt.toArray⟩ : ByteArray))
  f3 : d 3 = true → x16 = (.string ((⟨dt.toArray⟩ : ByteArray) ++ (⟨#[32]⟩ : ByteArray)))
  f4 : d 4 = true → x17 = (.pointer (some ⟨gx, 1, none⟩))
  f5 : d 5 = true → x18 = (.int .i64 n)
  f6 : d 6 = true → x19 = (.string (⟨dn.toArray⟩ : ByteArray))
  f7 : d 7 = true → x20 = (.string (((⟨dt.toArray⟩ : ByteArray) ++ (⟨#[32]⟩ : ByteArray)) ++ (⟨dn.toArray⟩ : ByteArray)))
  f8 : d 8 = true → x21 = (.string ((((⟨dt.toArray⟩ : ByteArray) ++ (⟨#[32]⟩ : ByteArray)) ++ (⟨dn.toArray⟩ : ByteArray)) ++ (⟨#[10]⟩ : ByteArray)))
  f9 : d 9 = true → x22 = (.tuple #[.int .i64 ((dt.length : Int) + 1 + (dn.length : Int) + 1), .nilIface])
  kp : Below bb w9 W
  b0 : d 9 = false → Go.Lib.IsBuilder 47 5 bb bb (Go.Lib.byteCells []) W
  b1 : d 9 = true → Go.Lib.IsBuilder 47 5 bb bb (Go.Lib.byteCells ([] ++ ((((⟨dt.toArray⟩ : ByteArray) ++ (⟨#[32]⟩ : ByteArray)) ++ (⟨dn.toArray⟩ : ByteArray)) ++ (⟨#[10]⟩ : ByteArray)).data.toList)) W

set_option maxHeartbeats 8000000 in
set_option maxRecDepth 20000 in
theorem Write_ok (t n : Int) (pv : Value) (ps : List Pd) (w : World) (h : Pds w pv ps) (hok : chk t n ps = 0) :
    Calls Tryd.prog 8 #[.agg #[.int .i64 t, .int .i64 n, pv]] w fun e w' => e = .returned (.tuple #[.string ⟨(text t n ps).toArray⟩, .int .i64 0]) ∧ Below w.heap.size w w' := by
  have HOK : Hid (chk t n ps = 0) := hok
  have HPL : Hid (ps.length ≤ 40) := (chk_zero hok).2.1
  have HCK : Hid (okTN t n = true ∧ ∀ p ∈ ps, chkP t n p = 0) := ⟨(chk_zero hok).1, (chk_zero hok).2.2⟩
  have hle := okTN_le (chk_zero hok).1
  obtain ⟨dt, HDT⟩ : ∃ dt, Hid (Go.Lib.decDigits t.toNat = dt) := ⟨_, (rfl : Go.Lib.decDigits t.toNat = Go.Lib.decDigits t.toNat)⟩
  obtain ⟨dn, HDN⟩ : ∃ dn, Hid (Go.Lib.decDigits n.toNat = dn) := ⟨_, (rfl : Go.Lib.decDigits n.toNat = Go.Lib.decDigits n.toNat)⟩
  have HT : Hid (∀ W, Calls Tryd.prog 15 #[.int .i64 t] W fun e w' => e = .returned (.string (⟨dt.toArray⟩ : ByteArray)) ∧ w' = W) := fun W => by have := itoa_any t (by omega) (by omega) W; rw [HDT.out] at this; exact this
  have HN : Hid (∀ W, Calls Tryd.prog 15 #[.int .i64 n] W fun e w' => e = .returned (.string (⟨dn.toArray⟩ : ByteArray)) ∧ w' = W) := fun W => by have := itoa_any n (by omega) (by omega) W; rw [HDN.out] at this; exact this
  have HLN : Hid (dt.length ≤ 2 ∧ dn.length ≤ 2) := ⟨by rw [← HDT.out]; exact dec_len (by omega), by rw [← HDN.out]; exact dec_len (by omega)⟩
  obtain ⟨hd0, HH0⟩ : ∃ hd0, Hid (dt ++ 32 :: (dn ++ [10]) = hd0) := ⟨_, (rfl : dt ++ 32 :: (dn ++ [10]) = dt ++ 32 :: (dn ++ [10]))⟩
  have HHD : Hid (([] ++ ((((⟨dt.toArray⟩ : ByteArray) ++ (⟨#[32]⟩ : ByteArray)) ++ (⟨dn.toArray⟩ : ByteArray)) ++ (⟨#[10]⟩ : ByteArray)).data.toList : List UInt8) = hd0) := by
    show _ = _
    rw [← HH0.out, show ((((⟨dt.toArray⟩ : ByteArray) ++ (⟨#[32]⟩ : ByteArray)) ++ (⟨dn.toArray⟩ : ByteArray)) ++ (⟨#[10]⟩ : ByteArray)) = ⟨(dt ++ [32] ++ dn ++ [10]).toArray⟩ by rw [show (⟨#[32]⟩ : ByteArray) = ⟨[32].toArray⟩ from rfl, show (⟨#[10]⟩ : ByteArray) = ⟨[10].toArray⟩ from rfl, bs_append, bs_append, bs_append]]
    simp
  have HS8 : Hid (((((⟨dt.toArray⟩ : ByteArray) ++ (⟨#[32]⟩ : ByteArray)) ++ (⟨dn.toArray⟩ : ByteArray)) ++ (⟨#[10]⟩ : ByteArray)).size ≤ 6) := by
    show _ ≤ _
    rw [← data_size]
    have e := HHD.out
    rw [List.nil_append] at e
    rw [e, ← HH0.out]
    have := HLN.out
    simp; omega
  have HHL : Hid (hd0.length ≤ 6) := by show _ ≤ _; rw [← HH0.out]; have := HLN.out; simp; omega
  obtain ⟨tx, HTX0⟩ : ∃ tx, Hid (text t n ps = tx) := ⟨_, (rfl : text t n ps = text t n ps)⟩
  have HTX : Hid (hd0 ++ linesT ps = tx) := by show _ = _; rw [← HTX0.out, ← HH0.out]; unfold text linesT; rw [HDT.out, HDN.out]
  rw [HTX0.out]
  have HG0 : Hid (Gb w w.heap.size t n pv ps (w.alloc (Obj.cells #[.int .i64 t, .int .i64 n, pv] 24))) := Gb.box h t n
  obtain ⟨ao, c, rfl, hm, hcs⟩ := h
  clear hok hle
  go_enter Tryd.func8, Tryd.ntmps8
  go_wp2_with fail
  have hc := Check_any t n _ ps _ HG0.out.pds
  rw [HOK.out] at hc
  refine hc.mono ?_
  rintro _ w1 ⟨rfl, hb⟩
  have HG1 : Hid (Gb w w.heap.size t n (.slice ao ps.length c) ps w1) := HG0.out.next hb
  clear hc hb HG0
  have HBU0 : Hid (Go.Lib.IsBuilder 47 5 w1.heap.size w1.heap.size (Go.Lib.byteCells []) (w1.alloc (Obj.cells #[.pointer none, .slice none 0 0] 47))) := Go.Lib.fresh_isBuilder 47 5 w1
  have HW9 : Hid (Below w1.heap.size w1 (w1.alloc (Obj.cells #[.pointer none, .slice none 0 0] 47))) := below_alloc _ _
  have HBW : Hid (w1.heap.size ≤ (w1.alloc (Obj.cells #[.pointer none, .slice none 0 0] 47)).heap.size) := (below_alloc w1 _).size
  have HC : Hid ((w1.alloc (Obj.cells #[.pointer none, .slice none 0 0] 47)).cell? ⟨w.heap.size, 0, none⟩ = some (.int .i64 t) ∧ (w1.alloc (Obj.cells #[.pointer none, .slice none 0 0] 47)).cell? ⟨w.heap.size, 1, none⟩ = some (.int .i64 n) ∧ w.heap.size < w1.heap.size) := ⟨((below_alloc w1 _).cell (p := ⟨w.heap.size, 0, none⟩) HG1.out.lt).trans HG1.out.c0, ((below_alloc w1 _).cell (p := ⟨w.heap.size, 1, none⟩) HG1.out.lt).trans HG1.out.c1, HG1.out.lt⟩
  go_upto_region 5 with (fail)
  obtain ⟨bb, HBB⟩ : ∃ bb, Hid (w1.heap.size = bb) := ⟨_, (rfl : w1.heap.size = w1.heap.size)⟩
  rw [HBB.out] at HBU0 HW9 HBW HC ⊢
  generalize w1.alloc (Obj.cells #[.pointer none, .slice none 0 0] 47) = wb at HBU0 HW9 HBW HC ⊢
  refine wp_region_free mixed (fun a0 d a W => ∃ (x13 x14 x15 x16 x17 x18 x19 x20 x21 x22 : Value), a = ((((((((((a0.put (some 13) x13).put (some 14) x14).put (some 15) x15).put (some 16) x16).put (some 17) x17).put (some 18) x18).put (some 19) x19).put (some 20) x20).put (some 21) x21).put (some 22) x22) ∧ Hid (RWr wb bb w.heap.size t n dt dn d x13 x14 x15 x16 x17 x18 x19 x20 x21 x22 W)) (by kernel_rfl) ⟨undef, undef, undef, undef, undef, undef, undef, undef, undef, undef, by simp only [Act.put, List.setIfInBounds_toArray, List.set_cons_zero, List.set_cons_succ], ?_⟩ ?_ ?_
  · exact ⟨fun h => no_way h, fun h => no_way h, fun h => no_way h, fun h => no_way h, fun h => no_way h, fun h => no_way h, fun h => no_way h, fun h => no_way h, fun h => no_way h, fun h => no_way h, Below.drew (Below.refl _ _), fun _ => HBU0.out, fun h => no_way h⟩
  · simp only [StepAll, and_true]
    refine ⟨?_, ?_, ?_, ?_, ?_, ?_, ?_, ?_, ?_, ?_⟩
    · intro d a W hI hd hdep
      obtain ⟨x13, x14, x15, x16, x17, x18, x19, x20, x21, x22, rfl, hF⟩ := hI
      clear hdep hd
      intro K hK
      simp only [Act.put, List.setIfInBounds_toArray, List.set_cons_zero, List.set_cons_succ]
      go_simp
      refine hK.out _ _ ⟨(.pointer (some ⟨w.heap.size, 0, none⟩)), x14, x15, x16, x17, x18, x19, x20, x21, x22, by simp only [Act.put, List.setIfInBounds_toArray, List.set_cons_zero, List.set_cons_succ], ?_⟩
      exact ⟨fun _ => rfl, fun h => hF.out.f1 (by simpa using h), fun h => hF.out.f2 (by simpa using h), fun h => hF.out.f3 (by simpa using h), fun h => hF.out.f4 (by simpa using h), fun h => hF.out.f5 (by simpa using h), fun h => hF.out.f6 (by simpa using h), fun h => hF.out.f7 (by simpa using h), fun h => hF.out.f8 (by simpa using h), fun h => hF.out.f9 (by simpa using h), hF.out.kp, fun h => hF.out.b0 (by simpa using h), fun h => hF.out.b1 (by simpa using h)⟩
    · intro d a W hI hd hdep
      obtain ⟨x13, x14, x15, x16, x17, x18, x19, x20, x21, x22, rfl, hF⟩ := hI
      have hd0 : d 0 = true := dep_of hdep 0 (by kernel_rfl)
      obtain rfl := hF.out.f0 hd0
      have ya := (hF.out.kp.cell (p := ⟨w.heap.size, 0, none⟩) HC.out.2.2).trans HC.out.1
      clear hdep hd hd0
      intro K hK
      simp only [Act.put, List.setIfInBounds_toArray, List.set_cons_zero, List.set_cons_succ]
      go_simp
      refine hK.out _ _ ⟨(.pointer (some ⟨w.heap.size, 0, none⟩)), (.int .i64 t), x15, x16, x17, x18, x19, x20, x21, x22, by simp only [Act.put, List.setIfInBounds_toArray, List.set_cons_zero, List.set_cons_succ], ?_⟩
      exact ⟨fun h => hF.out.f0 (by simpa using h), fun _ => rfl, fun h => hF.out.f2 (by simpa using h), fun h => hF.out.f3 (by simpa using h), fun h => hF.out.f4 (by simpa using h), fun h => hF.out.f5 (by simpa using h), fun h => hF.out.f6 (by simpa using h), fun h => hF.out.f7 (by simpa using h), fun h => hF.out.f8 (by simpa using h), fun h => hF.out.f9 (by simpa using h), hF.out.kp, fun h => hF.out.b0 (by simpa using h), fun h => hF.out.b1 (by simpa using h)⟩
    · intro d a W hI hd hdep
      obtain ⟨x13, x14, x15, x16, x17, x18, x19, x20, x21, x22, rfl, hF⟩ := hI
      have hd1 : d 1 = true := dep_of hdep 1 (by kernel_rfl)
      obtain rfl := hF.out.f1 hd1
      have hcl := HT.out W
      clear hdep hd hd1
      intro K hK
      simp only [Act.put, List.setIfInBounds_toArray, List.set_cons_zero, List.set_cons_succ]
      go_simp
      refine hcl.mono ?_
      rintro _ W1 ⟨rfl, hw1⟩
      subst hw1
      go_simp
      refine hK.out _ _ ⟨x13, (.int .i64 t), (.string (⟨dt.toArray⟩ : ByteArray)), x16, x17, x18, x19, x20, x21, x22, by simp only [Act.put, List.setIfInBounds_toArray, List.set_cons_zero, List.set_cons_succ], ?_⟩
      exact ⟨fun h => hF.out.f0 (by simpa using h), fun h => hF.out.f1 (by simpa using h), fun _ => rfl, fun h => hF.out.f3 (by simpa using h), fun h => hF.out.f4 (by simpa using h), fun h => hF.out.f5 (by simpa using h), fun h => hF.out.f6 (by simpa using h), fun h => hF.out.f7 (by simpa using h), fun h => hF.out.f8 (by simpa using h), fun h => hF.out.f9 (by simpa using h), hF.out.kp, fun h => hF.out.b0 (by simpa using h), fun h => hF.out.b1 (by simpa using h)⟩
    · intro d a W hI hd hdep
      obtain ⟨x13, x14, x15, x16, x17, x18, x19, x20, x21, x22, rfl, hF⟩ := hI
      have hd2 : d 2 = true := dep_of hdep 2 (by kernel_rfl)
      obtain rfl := hF.out.f2 hd2
      have hl1 := HLN.out.1
      clear hdep hd hd2
      intro K hK
      simp only [Act.put, List.setIfInBounds_toArray, List.set_cons_zero, List.set_cons_succ]
      go_simp
      rw [if_neg (by first | omega | (simp; omega))]
      go_simp
      refine hK.out _ _ ⟨x13, x14, (.string (⟨dt.toArray⟩ : ByteArray)), (.string ((⟨dt.toArray⟩ : ByteArray) ++ (⟨#[32]⟩ : ByteArray))), x17, x18, x19, x20, x21, x22, by simp only [Act.put, List.setIfInBounds_toArray, List.set_cons_zero, List.set_cons_succ], ?_⟩
      exact ⟨fun h => hF.out.f0 (by simpa using h), fun h => hF.out.f1 (by simpa using h), fun h => hF.out.f2 (by simpa using h), fun _ => rfl, fun h => hF.out.f4 (by simpa using h), fun h => hF.out.f5 (by simpa using h), fun h => hF.out.f6 (by simpa using h), fun h => hF.out.f7 (by simpa using h), fun h => hF.out.f8 (by simpa using h), fun h => hF.out.f9 (by simpa using h), hF.out.kp, fun h => hF.out.b0 (by simpa using h), fun h => hF.out.b1 (by simpa using h)⟩
    · intro d a W hI hd hdep
      obtain ⟨x13, x14, x15, x16, x17, x18, x19, x20, x21, x22, rfl, hF⟩ := hI
      clear hdep hd
      intro K hK
      simp only [Act.put, List.setIfInBounds_toArray, List.set_cons_zero, List.set_cons_succ]
      go_simp
      refine hK.out _ _ ⟨x13, x14, x15, x16, (.pointer (some ⟨w.heap.size, 1, none⟩)), x18, x19, x20, x21, x22, by simp only [Act.put, List.setIfInBounds_toArray, List.set_cons_zero, List.set_cons_succ], ?_⟩
      exact ⟨fun h => hF.out.f0 (by simpa using h), fun h => hF.out.f1 (by simpa using h), fun h => hF.out.f2 (by simpa using h), fun h => hF.out.f3 (by simpa using h), fun _ => rfl, fun h => hF.out.f5 (by simpa using h), fun h => hF.out.f6 (by simpa using h), fun h => hF.out.f7 (by simpa using h), fun h => hF.out.f8 (by simpa using h), fun h => hF.out.f9 (by simpa using h), hF.out.kp, fun h => hF.out.b0 (by simpa using h), fun h => hF.out.b1 (by simpa using h)⟩
    · intro d a W hI hd hdep
      obtain ⟨x13, x14, x15, x16, x17, x18, x19, x20, x21, x22, rfl, hF⟩ := hI
      have hd4 : d 4 = true := dep_of hdep 4 (by kernel_rfl)
      obtain rfl := hF.out.f4 hd4
      have ya := (hF.out.kp.cell (p := ⟨w.heap.size, 1, none⟩) HC.out.2.2).trans HC.out.2.1
      clear hdep hd hd4
      intro K hK
      simp only [Act.put, List.setIfInBounds_toArray, List.set_cons_zero, List.set_cons_succ]
      go_simp
      refine hK.out _ _ ⟨x13, x14, x15, x16, (.pointer (some ⟨w.heap.size, 1, none⟩)), (.int .i64 n), x19, x20, x21, x22, by simp only [Act.put, List.setIfInBounds_toArray, List.set_cons_zero, List.set_cons_succ], ?_⟩
      exact ⟨fun h => hF.out.f0 (by simpa using h), fun h => hF.out.f1 (by simpa using h), fun h => hF.out.f2 (by simpa using h), fun h => hF.out.f3 (by simpa using h), fun h => hF.out.f4 (by simpa using h), fun _ => rfl, fun h => hF.out.f6 (by simpa using h), fun h => hF.out.f7 (by simpa using h), fun h => hF.out.f8 (by simpa using h), fun h => hF.out.f9 (by simpa using h), hF.out.kp, fun h => hF.out.b0 (by simpa using h), fun h => hF.out.b1 (by simpa using h)⟩
    · intro d a W hI hd hdep
      obtain ⟨x13, x14, x15, x16, x17, x18, x19, x20, x21, x22, rfl, hF⟩ := hI
      have hd5 : d 5 = true := dep_of hdep 5 (by kernel_rfl)
      obtain rfl := hF.out.f5 hd5
      have hcl := HN.out W
      clear hdep hd hd5
      intro K hK
      simp only [Act.put, List.setIfInBounds_toArray, List.set_cons_zero, List.set_cons_succ]
      go_simp
      refine hcl.mono ?_
      rintro _ W1 ⟨rfl, hw1⟩
      subst hw1
      go_simp
      refine hK.out _ _ ⟨x13, x14, x15, x16, x17, (.int .i64 n), (.string (⟨dn.toArray⟩ : ByteArray)), x20, x21, x22, by simp only [Act.put, List.setIfInBounds_toArray, List.set_cons_zero, List.set_cons_succ], ?_⟩
      exact ⟨fun h => hF.out.f0 (by simpa using h), fun h => hF.out.f1 (by simpa using h), fun h => hF.out.f2 (by simpa using h), fun h => hF.out.f3 (by simpa using h), fun h => hF.out.f4 (by simpa using h), fun h => hF.out.f5 (by simpa using h), fun _ => rfl, fun h => hF.out.f7 (by simpa using h), fun h => hF.out.f8 (by simpa using h), fun h => hF.out.f9 (by simpa using h), hF.out.kp, fun h => hF.out.b0 (by simpa using h), fun h => hF.out.b1 (by simpa using h)⟩
    · intro d a W hI hd hdep
      obtain ⟨x13, x14, x15, x16, x17, x18, x19, x20, x21, x22, rfl, hF⟩ := hI
      have hd3 : d 3 = true := dep_of hdep 3 (by kernel_rfl)
      have hd6 : d 6 = true := dep_of hdep 6 (by kernel_rfl)
      obtain rfl := hF.out.f3 hd3
      obtain rfl := hF.out.f6 hd6
      have hl1 := HLN.out.1
      have hl2 := HLN.out.2
      clear hdep hd hd3 hd6
      intro K hK
      simp only [Act.put, List.setIfInBounds_toArray, List.set_cons_zero, List.set_cons_succ]
      go_simp
      rw [if_neg (by first | omega | (simp; omega))]
      go_simp
      refine hK.out _ _ ⟨x13, x14, x15, (.string ((⟨dt.toArray⟩ : ByteArray) ++ (⟨#[32]⟩ : ByteArray))), x17, x18, (.string (⟨dn.toArray⟩ : ByteArray)), (.string (((⟨dt.toArray⟩ : ByteArray) ++ (⟨#[32]⟩ : ByteArray)) ++ (⟨dn.toArray⟩ : ByteArray))), x21, x22, by simp only [Act.put, List.setIfInBounds_toArray, List.set_cons_zero, List.set_cons_succ], ?_⟩
      exact ⟨fun h => hF.out.f0 (by simpa using h), fun h => hF.out.f1 (by simpa using h), fun h => hF.out.f2 (by simpa using h), fun h => hF.out.f3 (by simpa using h), fun h => hF.out.f4 (by simpa using h), fun h => hF.out.f5 (by simpa using h), fun h => hF.out.f6 (by simpa using h), fun _ => rfl, fun h => hF.out.f8 (by simpa using h), fun h => hF.out.f9 (by simpa using h), hF.out.kp, fun h => hF.out.b0 (by simpa using h), fun h => hF.out.b1 (by simpa using h)⟩
    · intro d a W hI hd hdep
      obtain ⟨x13, x14, x15, x16, x17, x18, x19, x20, x21, x22, rfl, hF⟩ := hI
      have hd7 : d 7 = true := dep_of hdep 7 (by kernel_rfl)
      obtain rfl := hF.out.f7 hd7
      have hl1 := HLN.out.1
      have hl2 := HLN.out.2
      clear hdep hd hd7
      intro K hK
      simp only [Act.put, List.setIfInBounds_toArray, List.set_cons_zero, List.set_cons_succ]
      go_simp
      rw [if_neg (by first | omega | (simp; omega))]
      go_simp
      refine hK.out _ _ ⟨x13, x14, x15, x16, x17, x18, x19, (.string (((⟨dt.toArray⟩ : ByteArray) ++ (⟨#[32]⟩ : ByteArray)) ++ (⟨dn.toArray⟩ : ByteArray))), (.string ((((⟨dt.toArray⟩ : ByteArray) ++ (⟨#[32]⟩ : ByteArray)) ++ (⟨dn.toArray⟩ : ByteArray)) ++ (⟨#[10]⟩ : ByteArray))), x22, by simp only [Act.put, List.setIfInBounds_toArray, List.set_cons_zero, List.set_cons_succ], ?_⟩
      exact ⟨fun h => hF.out.f0 (by simpa using h), fun h => hF.out.f1 (by simpa using h), fun h => hF.out.f2 (by simpa using h), fun h => hF.out.f3 (by simpa using h), fun h => hF.out.f4 (by simpa using h), fun h => hF.out.f5 (by simpa using h), fun h => hF.out.f6 (by simpa using h), fun h => hF.out.f7 (by simpa using h), fun _ => rfl, fun h => hF.out.f9 (by simpa using h), hF.out.kp, fun h => hF.out.b0 (by simpa using h), fun h => hF.out.b1 (by simpa using h)⟩
    · intro d a W hI hd hdep
      obtain ⟨x13, x14, x15, x16, x17, x18, x19, x20, x21, x22, rfl, hF⟩ := hI
      have hd8 : d 8 = true := dep_of hdep 8 (by kernel_rfl)
      obtain rfl := hF.out.f8 hd8
      have HKP : Hid (Below bb wb W) := hF.out.kp
      have hcl := write_any bb bb [] ((((⟨dt.toArray⟩ : ByteArray) ++ (⟨#[32]⟩ : ByteArray)) ++ (⟨dn.toArray⟩ : ByteArray)) ++ (⟨#[10]⟩ : ByteArray)) W (hF.out.b0 hd) (by have := HS8.out; simp only [List.length_nil]; omega) (Nat.le_trans HBW.out HKP.out.size)
      clear hdep hd hd8
      intro K hK
      simp only [Act.put, List.setIfInBounds_toArray, List.set_cons_zero, List.set_cons_succ]
      go_simp
      refine hcl.mono ?_
      rintro _ W1 ⟨rfl, hbu, hbb⟩
      have HBU : Hid (Go.Lib.IsBuilder 47 5 bb bb (Go.Lib.byteCells ([] ++ ((((⟨dt.toArray⟩ : ByteArray) ++ (⟨#[32]⟩ : ByteArray)) ++ (⟨dn.toArray⟩ : ByteArray)) ++ (⟨#[10]⟩ : ByteArray)).data.toList)) W1 ∧ Below bb W W1) := ⟨hbu, hbb⟩
      clear hbu hbb
      go_simp
      refine hK.out _ _ ⟨x13, x14, x15, x16, x17, x18, x19, x20, (.string ((((⟨dt.toArray⟩ : ByteArray) ++ (⟨#[32]⟩ : ByteArray)) ++ (⟨dn.toArray⟩ : ByteArray)) ++ (⟨#[10]⟩ : ByteArray))), (.tuple #[.int .i64 ((dt.length : Int) + 1 + (dn.length : Int) + 1), .nilIface]), by simp only [Act.put, List.setIfInBounds_toArray, List.set_cons_zero, List.set_cons_succ], ?_⟩
      exact ⟨fun h => hF.out.f0 (by simpa using h), fun h => hF.out.f1 (by simpa using h), fun h => hF.out.f2 (by simpa using h), fun h => hF.out.f3 (by simpa using h), fun h => hF.out.f4 (by simpa using h), fun h => hF.out.f5 (by simpa using h), fun h => hF.out.f6 (by simpa using h), fun h => hF.out.f7 (by simpa using h), fun h => hF.out.f8 (by simpa using h), fun _ => rfl, HKP.out.trans HBU.out.2, fun h => by simp at h, fun _ => HBU.out.1⟩
  · intro d a W hI hall
    obtain ⟨x13, x14, x15, x16, x17, x18, x19, x20, x21, x22, rfl, hF⟩ := hI
    simp only [List.length_cons, List.length_nil] at hall
    obtain rfl := hF.out.f0 (hall 0 (by omega))
    obtain rfl := hF.out.f1 (hall 1 (by omega))
    obtain rfl := hF.out.f2 (hall 2 (by omega))
    obtain rfl := hF.out.f3 (hall 3 (by omega))
    obtain rfl := hF.out.f4 (hall 4 (by omega))
    obtain rfl := hF.out.f5 (hall 5 (by omega))
    obtain rfl := hF.out.f6 (hall 6 (by omega))
    obtain rfl := hF.out.f7 (hall 7 (by omega))
    obtain rfl := hF.out.f8 (hall 8 (by omega))
    obtain rfl := hF.out.f9 (hall 9 (by omega))
    have HBF : Hid (Go.Lib.IsBuilder 47 5 bb bb (Go.Lib.byteCells (hd0 ++ linesT (ps.take 0))) W ∧ Below bb w1 W) := by
      have h1 := hF.out.b1 (hall 9 (by omega))
      rw [HHD.out] at h1
      exact ⟨by rw [show linesT (ps.take 0) = [] from rfl, List.append_nil]; exact h1, HW9.out.trans hF.out.kp⟩
    clear hF hall
    simp only [Act.put, List.setIfInBounds_toArray, List.set_cons_zero, List.set_cons_succ]
    have HG5 : Hid (Gb w w.heap.size t n (.slice ao ps.length c) ps W) := HG1.out.next (by rw [HBB.out]; exact HBF.out.2)
    have z2 := HG5.out.c2
    obtain ⟨s8, HS8E⟩ : ∃ s8 : ByteArray, Hid (((((⟨dt.toArray⟩ : ByteArray) ++ (⟨#[32]⟩ : ByteArray)) ++ (⟨dn.toArray⟩ : ByteArray)) ++ (⟨#[10]⟩ : ByteArray)) = s8) := ⟨_, (rfl : ((((⟨dt.toArray⟩ : ByteArray) ++ (⟨#[32]⟩ : ByteArray)) ++ (⟨dn.toArray⟩ : ByteArray)) ++ (⟨#[10]⟩ : ByteArray)) = ((((⟨dt.toArray⟩ : ByteArray) ++ (⟨#[32]⟩ : ByteArray)) ++ (⟨dn.toArray⟩ : ByteArray)) ++ (⟨#[10]⟩ : ByteArray)))⟩
    rw [HS8E.out]
    obtain ⟨s7, HS7E⟩ : ∃ s7 : ByteArray, Hid ((((⟨dt.toArray⟩ : ByteArray) ++ (⟨#[32]⟩ : ByteArray)) ++ (⟨dn.toArray⟩ : ByteArray)) = s7) := ⟨_, (rfl : (((⟨dt.toArray⟩ : ByteArray) ++ (⟨#[32]⟩ : ByteArray)) ++ (⟨dn.toArray⟩ : ByteArray)) = (((⟨dt.toArray⟩ : ByteArray) ++ (⟨#[32]⟩ : ByteArray)) ++ (⟨dn.toArray⟩ : ByteArray)))⟩
    rw [HS7E.out]
    obtain ⟨s3, HS3E⟩ : ∃ s3 : ByteArray, Hid (((⟨dt.toArray⟩ : ByteArray) ++ (⟨#[32]⟩ : ByteArray)) = s3) := ⟨_, (rfl : ((⟨dt.toArray⟩ : ByteArray) ++ (⟨#[32]⟩ : ByteArray)) = ((⟨dt.toArray⟩ : ByteArray) ++ (⟨#[32]⟩ : ByteArray)))⟩
    rw [HS3E.out]
    go_wp2_with fail
    clear z2
    go_loopw [26] (fun i wr => ∃ q : Nat, q ≤ ps.length ∧ i = .int .i64 (q : Int) ∧ Hid (Go.Lib.IsBuilder 47 5 bb bb (Go.Lib.byteCells (hd0 ++ linesT (ps.take q))) wr ∧ Below bb w1 wr)) (fun i _ => ps.length - (intOf i).toNat)
    case atStart => exact ⟨0, by omega, rfl, HBF⟩
    case round =>
      obtain ⟨q, hq, rfl, HI⟩ := hrel
      clear HBF HG5
      have HG6 : Hid (Gb w w.heap.size t n (.slice ao ps.length c) ps wr) := HG1.out.next (by rw [HBB.out]; exact HI.out.2)
      by_cases hlt : q < ps.length
      · obtain ⟨b, o, rfl, hb, hcc⟩ := hcs.resolve_left (by intro e; subst e; simp at hlt)
        have hbw : Below w.heap.size w wr := HG6.out.below
        obtain ⟨d0, u, d1, hsy⟩ := hcc q hlt
        have HOKP : Hid (chkP t n ps[q] = 0) := HCK.out.2 ps[q] (List.getElem_mem hlt)
        have HLT : Hid (linesT (ps.take (q + 1)) = linesT (ps.take q) ++ (prodT (ps[q].1, ps[q].2) ++ [10])) := by
          show _ = _
          unfold linesT
          rw [List.take_succ_eq_append_getElem hlt, List.flatMap_append]; simp
        have HLL : Hid ((linesT (ps.take q)).length ≤ 1440) := by
          show _ ≤ _
          have h1 := linesT_len t n (ps.take q) HCK.out.1 (fun p hp => HCK.out.2 p (List.mem_of_mem_take hp))
          have h2 : (ps.take q).length ≤ 40 := by rw [List.length_take]; have := HPL.out; omega
          omega
        have HSY : Hid (Syms wr u ps[q].2) := hsy.below hbw
        generalize ps[q] = pq at d0 HOKP HLT HSY
        obtain ⟨x, l⟩ := pq
        simp only at d0 HLT HSY
        replace d0 : wr.cell? ⟨b, o + q * 2, none⟩ = _ := (hbw.cell (p := ⟨b, o + q * 2, none⟩) hb).trans d0
        replace d1 : wr.cell? ⟨b, o + q * 2 + 1, none⟩ = _ := (hbw.cell (p := ⟨b, o + q * 2 + 1, none⟩) hb).trans d1
        have hk1 : (q : Int) < (ps.length : Int) := by omega
        obtain ⟨k1, k2, k3⟩ := prod_small HCK.out.1 HOKP.out
        have hpt := prodText_any x u l (wr.alloc (Obj.cells #[.int .i64 x, u] 39)) (HSY.out.below (below_alloc _ _)) k1.1 k1.2 k2 k3
        have HPTL : Hid ((prodT (x, l)).length ≤ 35) := prodT_len (x, l) (by show x.toNat < 100; omega) (fun s hs => by have := k3 s hs; omega) k2
        obtain ⟨pt, HPT⟩ : ∃ pt, Hid (prodT (x, l) = pt) := ⟨_, (rfl : prodT (x, l) = prodT (x, l))⟩
        rw [HPT.out] at hpt HLT HPTL
        obtain ⟨uo, uc, rfl, -, -⟩ := HSY.out
        have HB2 : Hid (Go.Lib.IsBuilder 47 5 bb bb (Go.Lib.byteCells (hd0 ++ linesT (ps.take q))) (wr.alloc (Obj.cells #[.int .i64 x, .slice uo l.length uc] 39)) ∧ Below bb w1 (wr.alloc (Obj.cells #[.int .i64 x, .slice uo l.length uc] 39)) ∧ bb ≤ (wr.alloc (Obj.cells #[.int .i64 x, .slice uo l.length uc] 39)).heap.size) :=
          ⟨builder_below HI.out.1 (below_alloc _ _), HI.out.2.alloc (by have := HI.out.2.size; rw [HBB.out] at this; exact this) _, by have := HI.out.2.size; rw [HBB.out] at this; simp; omega⟩
        clear k1 k2 k3 hcs hcc hbw HG6 HSY HI hsy
        go_wp2_with fail
        refine hpt.mono ?_
        rintro _ w2 ⟨rfl, hb2⟩
        have HB3 : Hid (Go.Lib.IsBuilder 47 5 bb bb (Go.Lib.byteCells (hd0 ++ linesT (ps.take q))) w2 ∧ Below bb w1 w2 ∧ bb ≤ w2.heap.size) := ⟨builder_below HB2.out.1 hb2, HB2.out.2.1.trans (hb2.mono HB2.out.2.2), Nat.le_trans HB2.out.2.2 hb2.size⟩
        clear hpt hb2 HB2 d0 d1
        have hptl : pt.length ≤ 35 := HPTL.out
        go_wp2_with fail
        have HWS : Hid (((⟨pt.toArray⟩ : ByteArray) ++ (⟨#[10]⟩ : ByteArray)).data.toList = pt ++ [10]) := by show _ = _; rw [show ((⟨pt.toArray⟩ : ByteArray) ++ (⟨#[10]⟩ : ByteArray)) = ⟨(pt ++ [10]).toArray⟩ from bs_append pt [10]]
        have HWZ : Hid (((⟨pt.toArray⟩ : ByteArray) ++ (⟨#[10]⟩ : ByteArray)).size ≤ 36) := by show _ ≤ _; rw [← data_size, HWS.out]; simp; omega
        have hwr := write_any bb bb (hd0 ++ linesT (ps.take q)) ((⟨pt.toArray⟩ : ByteArray) ++ (⟨#[10]⟩ : ByteArray)) w2 HB3.out.1 (by have := HWZ.out; have := HLL.out; have := HHL.out; rw [List.length_append]; omega) HB3.out.2.2
        rw [HWS.out] at hwr
        refine hwr.mono ?_
        rintro _ w3 ⟨rfl, hbu, hb3⟩
        have HIN : Hid (Go.Lib.IsBuilder 47 5 bb bb (Go.Lib.byteCells (hd0 ++ linesT (ps.take (q + 1)))) w3 ∧ Below bb w1 w3) := ⟨by rw [HLT.out, ← List.append_assoc]; exact hbu, HB3.out.2.1.trans hb3⟩
        clear hwr hbu hb3 HB3
        go_wp2_with fail
        go_roundw
        case rel => exact ⟨q + 1, by omega, by go_num, HIN⟩
        case measure => simp [intOf]; omega
      · have hqe : ps.take q = ps := List.take_of_length_le (by omega)
        have hbu := HI.out.1
        rw [hqe, HTX.out] at hbu
        have hst := Tryd.Builder_String_any bb bb tx wr hbu (by have := HI.out.2.size; rw [HBB.out] at this; exact this)
        have HBE : Hid (Below w.heap.size w wr ∧ bb ≤ wr.heap.size) := ⟨HG6.out.below, by have := HI.out.2.size; rw [HBB.out] at this; exact this⟩
        have HBL : Hid (w.heap.size ≤ bb) := by show _ ≤ _; rw [← HBB.out]; exact HG1.out.below.size
        clear hbu hqe
        go_wp2_with fail
        refine hst.mono ?_
        rintro _ w4 ⟨rfl, hb4⟩
        have HB4 : Hid (Below w.heap.size w w4) := HBE.out.1.trans (hb4.mono HBL.out)
        clear hst hb4
        go_wp2_with fail
        go_ret2
        exact ⟨rfl, HB4.out⟩

set_option maxHeartbeats 4000000 in
set_option maxRecDepth 20000 in
theorem Write_bad (t n : Int) (pv : Value) (ps : List Pd) (w : World) (h : Pds w pv ps) (r : Int) (hr : chk t n ps = r) (h0 : r ≠ 0) :
    Calls Tryd.prog 8 #[.agg #[.int .i64 t, .int .i64 n, pv]] w fun e w' => e = .returned (.tuple #[.string ⟨#[]⟩, .int .i64 r]) ∧ Below w.heap.size w w' := by
  have HR : Hid (chk t n ps = r) := hr
  have h0b : (r != 0) = true := by simp; exact h0
  have HG0 : Hid (Gb w w.heap.size t n pv ps (w.alloc (Obj.cells #[.int .i64 t, .int .i64 n, pv] 24))) := Gb.box h t n
  obtain ⟨ao, c, rfl, hm, hcs⟩ := h
  clear hr h0
  go_enter Tryd.func8, Tryd.ntmps8
  go_wp2_with fail
  have hc := Check_any t n _ ps _ HG0.out.pds
  rw [HR.out] at hc
  refine hc.mono ?_
  rintro _ w1 ⟨rfl, hb⟩
  have HB1 : Hid (Below w.heap.size w w1) := (HG0.out.next hb).below
  clear hc hb HG0
  go_wp2_with fail
  go_ret2
  exact ⟨rfl, HB1.out⟩
end Go.Proofs.YtgoafahglajfmaaDoor
