import Derived.Test.YtnniimfinakioaaGreatDoorYk
import Derived.Test.YtnniimfinakioaaGreatDoorXo
namespace Go.Proofs.YtnniimfinakioaaGreatDoor
open Go.RowKit

theorem progOpsS : ProgOpsG False ProgW where
  lt h := h.lt
  kp h k o := h.kp k o
  newNo n w hn := (pNew_arg n w hn).mono fun e w' ⟨h1, h2⟩ => ⟨h1, by rw [← h2]; exact Below.refl _ _⟩
  newYes n w h1 h5 := pNew_ok n w h1 h5
  add w S p W i s h ok hs := pAdd w S p W i s h ok hs
  remove w S p W i s h ok hs := pRemove w S p W i s h ok hs
  clear w S p W i h ok := pClear w S p W i h ok
  items w S p W i h ok := pItems w S p W i h ok
  text w S p W i h ok := pText w S p W i h ok
  status w S p W i h ok := pStatus w S p W i h ok
  send w S p W i j h ok := pSend w S p W i j h ok
  flying w S p W h ok := pFlying w S p W h ok
  deliver w S p W i h ok := pDeliver w S p W i h ok
  drop w S p W i h ok := pDrop w S p W i h ok
  double w S p W i h ok := pDouble w S p W i h ok
  collect h := h.elim
  crash h := h.elim
  round h := h.elim

theorem aloneUpto : Rows.AloneUptoCardSaid := cardUpto progOpsS
theorem sentUpto : Rows.SentUptoCardSaid := cardUptoS progOpsS
end Go.Proofs.YtnniimfinakioaaGreatDoor
