/- The shelf of this dump. -/
import Derived.Test.YtflfmcikfiaoiaaShelf
